/-
  RcPutHb: put together.
-/
import Derived.Test.YtkhejjddmbegaaaGreatG3
/-
  putHeading.
-/
namespace Go.Proofs.YtkhejjddmbegaaaGreat.Rc
open Go.RowKit Go.Shelf
attribute [local go_sem] Oper.semAt_some

/-- a head -/
def headB (e s : Nat) (es : List (Nat × List UInt8)) : List UInt8 := (putTo (nought 4096) (mark e s) (bodyB es) (List.finRange 8)).1

set_option maxRecDepth 100000 in
set_option maxHeartbeats 8000000 in
theorem putHeading_in (e s : Nat) (a : Option Addr) (n cap : Nat) (es : List (Nat × List UInt8)) (w : World) (he : e ≤ 8388608) (hs : s ≤ 549755813888) (hl : es.length = n) (h0 : 0 < n) (hn : n ≤ 32) (hEs : Ents w a es) (hbl : ∀ x ∈ es, x.1 ≤ 511) :
    Calls Tryz.prog 78 #[.agg #[.int .i64 (e : Int), .int .i64 (s : Int), .slice a n cap]] w fun r w' => ∃ h, r = .returned (.slice (some ⟨h, 0, none⟩) 4096 4096) ∧ w.heap.size ≤ h ∧ RowB w' h 4096 (headB e s es) ∧ Below w.heap.size w w' := by
  have h64 : ∀ x ∈ es, x.2.length = 64 := fun x hx => by
    obtain ⟨j, hj, rfl⟩ := List.getElem_of_mem hx
    obtain ⟨b, o, _, hc⟩ := hEs (by omega)
    obtain ⟨_, _, _, _, _, _, _, q, _⟩ := hc j hj
    exact q
  have H64 : Hid (∀ x ∈ es, x.2.length = 64) := h64
  clear h64
  unfold headB
  refine (callsIn_wide (n := 3)).1 ?_
  have hm : ∀ u : World, (Instr.makeSlice 41 (.int .i64 4096) (.int .i64 4096)).run Tryz.prog u = .ok (.slice (some ⟨u.heap.size, 0, none⟩) 4096 4096) (u.alloc (.cells (bcs (nought 4096)).toArray 5)) := make_run 4096 (by omega)
  obtain ⟨Z, hZ⟩ : ∃ Z, Z = nought 4096 := ⟨_, rfl⟩
  rw [← hZ] at hm
  have HZ : Hid _ := hZ
  clear hZ
  obtain ⟨M, hM⟩ : ∃ M, M = mark e s := ⟨_, rfl⟩
  obtain ⟨BB, hBB⟩ : ∃ B, B = bodyB es := ⟨_, rfl⟩
  have HM : Hid _ := hM
  have HBB : Hid _ := hBB
  clear hM hBB
  refine callsIn_of_wp_marks Tryz.func78 rfl trivial ?_ rfl
  simp only [Tryz.ntmps78, List.size_toArray, List.length_cons, List.length_nil, Nat.reduceAdd, Nat.reduceSub, Array.replicate_succ, Array.replicate_zero, List.push_toArray, List.append_toArray, List.nil_append, List.cons_append]
  gi_wp2_with fail
  refine wpIn_mono (Q := (fun x A W => x = .normal ∧ ∃ g4 av cv b8 b9, A = { tmps := #[.agg #[.int .i64 (e : Int), .int .i64 (s : Int), .slice a n cap], .pointer (some ⟨w.heap.size, 0, none⟩), .slice none 0 0, .slice (some ⟨w.heap.size + 1, 0, none⟩) 4096 4096, .pointer (some ⟨b8, 0, none⟩), .pointer (some ⟨b9, 0, none⟩), undef, .slice (some ⟨w.heap.size + 1, 0, none⟩) 4096 4096, .pointer (some ⟨w.heap.size, 0, none⟩), .int .i64 (e : Int), .pointer (some ⟨w.heap.size, 1, none⟩), .int .i64 (s : Int), .slice (some ⟨g4, 0, none⟩) 8 8, .pointer (some ⟨w.heap.size, 2, none⟩), .slice a n cap, .slice av 4032 cv, undef, undef, undef, undef, undef, undef, undef, undef, undef, undef, undef, undef, undef], defers := [] } ∧ PutHI (w.heap.size + 2) g4 b8 b9 av cv M BB W ∧ Own W (w.heap.size + 1) Z ∧ Below w.heap.size w W)) ?reg ?tail
  case reg =>
    have b0 := (Box.new w #[.int .i64 (e : Int), .int .i64 (s : Int), .slice a n cap] 129).alloc (.cells (bcs Z).toArray 5)
    have o0 := own_lit (w.alloc (.cells #[.int .i64 (e : Int), .int .i64 (s : Int), .slice a n cap] 129)) Z
    have s1 : (w.alloc (.cells #[.int .i64 (e : Int), .int .i64 (s : Int), .slice a n cap] 129)).heap.size = w.heap.size + 1 := by simp
    rw [s1] at o0
    have B0 := ((Below.refl w.heap.size w).alloc (Nat.le_refl _) (.cells #[.int .i64 (e : Int), .int .i64 (s : Int), .slice a n cap] 129)).alloc (by simp) (.cells (bcs Z).toArray 5)
    have s2 : ((w.alloc (.cells #[.int .i64 (e : Int), .int .i64 (s : Int), .slice a n cap] 129)).alloc (.cells (bcs Z).toArray 5)).heap.size = w.heap.size + 2 := by simp
    generalize (w.alloc (.cells #[.int .i64 (e : Int), .int .i64 (s : Int), .slice a n cap] 129)).alloc (.cells (bcs Z).toArray 5) = U at b0 o0 B0 s2 ⊢
    refine wpIn_wide.2 ?_
    refine wp_region_any (by kernel_rfl) ?_
    change wpAny _ _ _ _ _ _ _ (World.drew _)
    have bx : Box U.drew w.heap.size _ 129 := b0
    have zo : Own U.drew (w.heap.size + 1) Z := o0
    have B : Below w.heap.size w U.drew := B0.drew
    have hz : w.heap.size + 2 ≤ U.drew.heap.size := by show _ ≤ U.heap.size; omega
    generalize U.drew = V at bx zo B hz ⊢
    clear b0 o0 B0 s1 s2 U hm
    refine wpAny_take (i := 0) (v := ?_) rfl (by kernel_rfl) (by kernel_rfl) (by kernel_rfl) (fun _ _ _ h => nomatch h.1) (Or.inl ⟨by rfl, ?_⟩) ?_
    rotate_left
    · intro w
      go_simp
      with_reducible rfl
    refine wpAny_take (i := 2) (v := ?_) rfl (by kernel_rfl) (by kernel_rfl) (by kernel_rfl) (fun _ _ _ h => nomatch h.1) (Or.inl ⟨by rfl, ?_⟩) ?_
    rotate_left
    · intro w
      go_simp
      with_reducible rfl
    refine wpAny_take (i := 5) (v := ?_) rfl (by kernel_rfl) (by kernel_rfl) (by kernel_rfl) (fun _ _ _ h => nomatch h.1) (Or.inl ⟨by rfl, ?_⟩) ?_
    rotate_left
    · intro w
      go_simp
      with_reducible rfl
    simp only [Act.put, List.setIfInBounds_toArray, List.set_cons_zero, List.set_cons_succ, List.getElem_toArray, List.getElem_cons_zero, List.getElem_cons_succ]
    refine wpAny_of_late (C := SB [(8, .pointer (some ⟨w.heap.size, 0, none⟩)), (10, .pointer (some ⟨w.heap.size, 1, none⟩)), (13, .pointer (some ⟨w.heap.size, 2, none⟩))] [(w.heap.size, #[.int .i64 (e : Int), .int .i64 (s : Int), .slice a n cap], 129)]) (late := [11]) _ _ _ _ ?_
    refine wpAnyD_take (i := 1) (v := .int .i64 (e : Int)) rfl (by kernel_rfl) (by kernel_rfl) (by kernel_rfl) (by kernel_rfl) (fun _ _ _ h => nomatch h.1) ?_ (fun fr u h => (SB.put 9 _ (by rfl)).1 h) (fun fr u h => (SB.put 9 _ (by rfl)).2 h) ?_ ?_
    · intro fr u hh
      obtain ⟨e1, e2⟩ := hh.load (s := 8) (b := w.heap.size) (j := 0) (cs := #[.int .i64 (e : Int), .int .i64 (s : Int), .slice a n cap]) (t := 129) (v := .int .i64 (e : Int)) (by simp) (by simp) (by rfl)
      exact ⟨rfl, by simp [execOp, e1, go_sem, e2]⟩
    · exact ⟨fun p hp => by simp at hp; rcases hp with rfl | rfl | rfl <;> rfl, fun q hq => by simp at hq; subst hq; exact bx⟩
    simp only [Act.put, List.setIfInBounds_toArray, List.set_cons_zero, List.set_cons_succ, List.getElem_toArray, List.getElem_cons_zero, List.getElem_cons_succ]
    refine wpAnyD_take (i := 3) (v := .int .i64 (s : Int)) rfl (by kernel_rfl) (by kernel_rfl) (by kernel_rfl) (by kernel_rfl) (fun _ _ _ h => nomatch h.1) ?_ (fun fr u h => (SB.put 11 _ (by rfl)).1 h) (fun fr u h => (SB.put 11 _ (by rfl)).2 h) ?_ ?_
    · intro fr u hh
      obtain ⟨e1, e2⟩ := hh.load (s := 10) (b := w.heap.size) (j := 1) (cs := #[.int .i64 (e : Int), .int .i64 (s : Int), .slice a n cap]) (t := 129) (v := .int .i64 (s : Int)) (by simp) (by simp) (by rfl)
      exact ⟨rfl, by simp [execOp, e1, go_sem, e2]⟩
    · exact ⟨fun p hp => by simp at hp; rcases hp with rfl | rfl | rfl <;> rfl, fun q hq => by simp at hq; subst hq; exact bx⟩
    simp only [Act.put, List.setIfInBounds_toArray, List.set_cons_zero, List.set_cons_succ, List.getElem_toArray, List.getElem_cons_zero, List.getElem_cons_succ]
    refine wpAnyD_take (i := 6) (v := .slice a n cap) rfl (by kernel_rfl) (by kernel_rfl) (by kernel_rfl) (by kernel_rfl) (fun _ _ _ h => nomatch h.1) ?_ (fun fr u h => (SB.put 14 _ (by rfl)).1 h) (fun fr u h => (SB.put 14 _ (by rfl)).2 h) ?_ ?_
    · intro fr u hh
      obtain ⟨e1, e2⟩ := hh.load (s := 13) (b := w.heap.size) (j := 2) (cs := #[.int .i64 (e : Int), .int .i64 (s : Int), .slice a n cap]) (t := 129) (v := .slice a n cap) (by simp) (by simp) (by rfl)
      exact ⟨rfl, by simp [execOp, e1, go_sem, e2]⟩
    · exact ⟨fun p hp => by simp at hp; rcases hp with rfl | rfl | rfl <;> rfl, fun q hq => by simp at hq; subst hq; exact bx⟩
    simp only [Act.put, List.setIfInBounds_toArray, List.set_cons_zero, List.set_cons_succ, List.getElem_toArray, List.getElem_cons_zero, List.getElem_cons_succ]
    refine wpAnyD_ready (rs := [4, 8, 9]) (by kernel_rfl) (by simp) ?_
    refine AllD.cons rfl (fun K hK2 => ?_) ?_
    · skip
      go_simp
      refine (stamp_at e s _ _ V rfl rfl he hs).mono ?_
      rintro x V' ⟨rfl, ho, hb'⟩
      replace zo := zo.below hb' zo.lt
      replace bx := bx.below hb'
      replace B := B.trans (hb'.mono B.size)
      refine hK2 _ _ ⟨.inr ⟨fun p hp => by simp at hp; rcases hp with rfl | rfl | rfl <;> rfl, fun q hq => by simp at hq; subst hq; exact bx⟩, ?_⟩
      clear hK2 K
      have z4 : w.heap.size + 2 ≤ V.heap.size := hz
      replace hz := Nat.le_trans hz hb'.size
      have m4 := ho
      obtain ⟨g4, hg4⟩ : ∃ g, g = V.heap.size := ⟨_, rfl⟩
      rw [← hg4] at m4 z4 ⊢
      clear ho hb' hg4 V
      obtain ⟨V, rfl⟩ : ∃ V, V = V' := ⟨_, rfl⟩
      refine wpAnyD_ready (rs := [7, 8, 9]) (by kernel_rfl) (by simp) ?_
      refine AllD.cons rfl (fun K hK2 => ?_) ?_
      · skip
        go_simp
        refine (body_at a n cap es V hl h0 hn (hEs.below B) hbl).mono ?_
        rintro x V' ⟨v7, rfl, ow, hb'⟩
        replace zo := zo.below hb' zo.lt
        replace bx := bx.below hb'
        replace m4 := m4.below hb' m4.lt
        replace B := B.trans (hb'.mono B.size)
        refine hK2 _ _ ⟨.inr ⟨fun p hp => by simp at hp; rcases hp with rfl | rfl | rfl <;> rfl, fun q hq => by simp at hq; subst hq; exact bx⟩, ?_⟩
        clear hK2 K
        have r7 := owns_base ow hz
        replace hz := Nat.le_trans hz hb'.size
        obtain ⟨av, cv, rfl⟩ := owns_shape r7
        clear ow hb' V
        obtain ⟨V, rfl⟩ : ∃ V, V = V' := ⟨_, rfl⟩
        refine wpAnyD_ready (rs := [8, 9]) (by kernel_rfl) (by simp) ?_
        refine AllD.cons rfl (fun K hK2 => ?_) ?_
        · skip
          go_simp
          have hb' := (Below.refl V.heap.size V).alloc (Nat.le_refl _) (.cells #[.slice none 0 0] 41)
          have hnew := Box.new V #[.slice none 0 0] 41
          replace zo := zo.below hb' zo.lt
          replace bx := bx.below hb'
          replace m4 := m4.below hb' m4.lt
          replace r7 := owns_below r7 hb'
          replace B := B.trans (hb'.mono B.size)
          refine hK2 _ _ ⟨.inr ⟨fun p hp => by simp at hp; rcases hp with rfl | rfl | rfl <;> rfl, fun q hq => by simp at hq; subst hq; exact bx⟩, ?_⟩
          clear hK2 K
          have z8 : w.heap.size + 2 ≤ V.heap.size := hz
          replace hz := Nat.le_trans hz hb'.size
          obtain ⟨b8, hb8⟩ : ∃ g, g = V.heap.size := ⟨_, rfl⟩
          rw [← hb8] at hnew z8 ⊢
          clear hb'
          have p8 := hnew
          clear hnew
          generalize V.alloc (.cells #[.slice none 0 0] 41) = V' at zo bx B hz p8 m4 r7 ⊢
          clear hb8 V
          obtain ⟨V, rfl⟩ : ∃ V, V = V' := ⟨_, rfl⟩
          refine wpAnyD_ready (rs := [9]) (by kernel_rfl) (by simp) ?_
          refine AllD.cons rfl (fun K hK2 => ?_) ?_
          · skip
            go_simp
            have hb' := (Below.refl V.heap.size V).alloc (Nat.le_refl _) (.cells #[.slice none 0 0] 41)
            have hnew := Box.new V #[.slice none 0 0] 41
            have q8 := p8.lt
            replace zo := zo.below hb' zo.lt
            replace bx := bx.below hb'
            replace m4 := m4.below hb' m4.lt
            replace r7 := owns_below r7 hb'
            replace p8 := p8.below hb'
            replace B := B.trans (hb'.mono B.size)
            refine hK2 _ _ ⟨.inr ⟨fun p hp => by simp at hp; rcases hp with rfl | rfl | rfl <;> rfl, fun q hq => by simp at hq; subst hq; exact bx⟩, ?_⟩
            clear hK2 K
            have z9 : w.heap.size + 2 ≤ V.heap.size := hz
            replace hz := Nat.le_trans hz hb'.size
            obtain ⟨b9, hb9⟩ : ∃ g, g = V.heap.size := ⟨_, rfl⟩
            rw [← hb9] at hnew z9 q8 ⊢
            have h98 : b9 ≠ b8 := by omega
            clear q8
            clear hb'
            have p9 := hnew
            clear hnew
            generalize V.alloc (.cells #[.slice none 0 0] 41) = V' at zo bx B hz p9 m4 r7 p8 ⊢
            clear hb9 V
            obtain ⟨V, rfl⟩ : ∃ V, V = V' := ⟨_, rfl⟩
            refine wpAnyD_ready (rs := [10]) (by kernel_rfl) (by simp) (AllD.cons rfl (fun K hK2 => ?_) AllD.nil)
            have d8 := p8.cell 0
            have f8 := p8.frozen 0
            have bx' : Box (V.setCell ⟨b8, 0, none⟩ (.slice (some ⟨g4, 0, none⟩) 8 8)) w.heap.size _ 129 := (heap_setCell_other V ⟨b8, 0, none⟩ w.heap.size _ (by show w.heap.size ≠ b8; omega)).trans bx
            go_simp
            refine hK2 _ _ ⟨.inr ⟨fun p hp => by simp at hp; rcases hp with rfl | rfl | rfl <;> rfl, fun q hq => by simp at hq; subst hq; exact bx'⟩, ?_⟩
            clear hK2 K
            have hne : b9 ≠ b8 := h98
            have p9' : Box (V.setCell ⟨b8, 0, none⟩ (.slice (some ⟨g4, 0, none⟩) 8 8)) b9 #[.slice none 0 0] 41 := (heap_setCell_other V ⟨b8, 0, none⟩ b9 _ hne).trans p9
            have d9 := p9'.cell 0
            have f9 := p9'.frozen 0
            refine wpAnyD_ready (rs := [11]) (by kernel_rfl) (by simp) (AllD.cons rfl (fun K hK2 => ?_) AllD.nil)
            go_simp
            refine hK2 _ _ ⟨.inl rfl, ?_⟩
            clear hK2 K
            refine wpAnyD_done (by kernel_rfl) ?_ _
            exact ⟨rfl, g4, av, cv, b8, b9, rfl, putHI_end hne z8 z9 z4 (by rw [HM.out]; exact m4) (by rw [HBB.out]; exact r7) p8 p9, ((Own.other (Own.other zo (by omega)) (by omega))), (B.setCell (p := ⟨b8, 0, none⟩) (by show w.heap.size ≤ b8; omega) _).setCell (p := ⟨b9, 0, none⟩) (by show w.heap.size ≤ b9; omega) _⟩
          exact AllD.nil
        refine AllD.cons rfl (fun K hK2 => ?_) ?_
        · skip
          go_simp
          have hb' := (Below.refl V.heap.size V).alloc (Nat.le_refl _) (.cells #[.slice none 0 0] 41)
          have hnew := Box.new V #[.slice none 0 0] 41
          replace zo := zo.below hb' zo.lt
          replace bx := bx.below hb'
          replace m4 := m4.below hb' m4.lt
          replace r7 := owns_below r7 hb'
          replace B := B.trans (hb'.mono B.size)
          refine hK2 _ _ ⟨.inr ⟨fun p hp => by simp at hp; rcases hp with rfl | rfl | rfl <;> rfl, fun q hq => by simp at hq; subst hq; exact bx⟩, ?_⟩
          clear hK2 K
          have z9 : w.heap.size + 2 ≤ V.heap.size := hz
          replace hz := Nat.le_trans hz hb'.size
          obtain ⟨b9, hb9⟩ : ∃ g, g = V.heap.size := ⟨_, rfl⟩
          rw [← hb9] at hnew z9 ⊢
          clear hb'
          have p9 := hnew
          clear hnew
          generalize V.alloc (.cells #[.slice none 0 0] 41) = V' at zo bx B hz p9 m4 r7 ⊢
          clear hb9 V
          obtain ⟨V, rfl⟩ : ∃ V, V = V' := ⟨_, rfl⟩
          refine wpAnyD_ready (rs := [8]) (by kernel_rfl) (by simp) ?_
          refine AllD.cons rfl (fun K hK2 => ?_) ?_
          · skip
            go_simp
            have hb' := (Below.refl V.heap.size V).alloc (Nat.le_refl _) (.cells #[.slice none 0 0] 41)
            have hnew := Box.new V #[.slice none 0 0] 41
            have q9 := p9.lt
            replace zo := zo.below hb' zo.lt
            replace bx := bx.below hb'
            replace m4 := m4.below hb' m4.lt
            replace r7 := owns_below r7 hb'
            replace p9 := p9.below hb'
            replace B := B.trans (hb'.mono B.size)
            refine hK2 _ _ ⟨.inr ⟨fun p hp => by simp at hp; rcases hp with rfl | rfl | rfl <;> rfl, fun q hq => by simp at hq; subst hq; exact bx⟩, ?_⟩
            clear hK2 K
            have z8 : w.heap.size + 2 ≤ V.heap.size := hz
            replace hz := Nat.le_trans hz hb'.size
            obtain ⟨b8, hb8⟩ : ∃ g, g = V.heap.size := ⟨_, rfl⟩
            rw [← hb8] at hnew z8 q9 ⊢
            have h98 : b9 ≠ b8 := by omega
            clear q9
            clear hb'
            have p8 := hnew
            clear hnew
            generalize V.alloc (.cells #[.slice none 0 0] 41) = V' at zo bx B hz p8 m4 r7 p9 ⊢
            clear hb8 V
            obtain ⟨V, rfl⟩ : ∃ V, V = V' := ⟨_, rfl⟩
            refine wpAnyD_ready (rs := [10]) (by kernel_rfl) (by simp) (AllD.cons rfl (fun K hK2 => ?_) AllD.nil)
            have d8 := p8.cell 0
            have f8 := p8.frozen 0
            have bx' : Box (V.setCell ⟨b8, 0, none⟩ (.slice (some ⟨g4, 0, none⟩) 8 8)) w.heap.size _ 129 := (heap_setCell_other V ⟨b8, 0, none⟩ w.heap.size _ (by show w.heap.size ≠ b8; omega)).trans bx
            go_simp
            refine hK2 _ _ ⟨.inr ⟨fun p hp => by simp at hp; rcases hp with rfl | rfl | rfl <;> rfl, fun q hq => by simp at hq; subst hq; exact bx'⟩, ?_⟩
            clear hK2 K
            have hne : b9 ≠ b8 := h98
            have p9' : Box (V.setCell ⟨b8, 0, none⟩ (.slice (some ⟨g4, 0, none⟩) 8 8)) b9 #[.slice none 0 0] 41 := (heap_setCell_other V ⟨b8, 0, none⟩ b9 _ hne).trans p9
            have d9 := p9'.cell 0
            have f9 := p9'.frozen 0
            refine wpAnyD_ready (rs := [11]) (by kernel_rfl) (by simp) (AllD.cons rfl (fun K hK2 => ?_) AllD.nil)
            go_simp
            refine hK2 _ _ ⟨.inl rfl, ?_⟩
            clear hK2 K
            refine wpAnyD_done (by kernel_rfl) ?_ _
            exact ⟨rfl, g4, av, cv, b8, b9, rfl, putHI_end hne z8 z9 z4 (by rw [HM.out]; exact m4) (by rw [HBB.out]; exact r7) p8 p9, ((Own.other (Own.other zo (by omega)) (by omega))), (B.setCell (p := ⟨b8, 0, none⟩) (by show w.heap.size ≤ b8; omega) _).setCell (p := ⟨b9, 0, none⟩) (by show w.heap.size ≤ b9; omega) _⟩
          exact AllD.nil
        exact AllD.nil
      refine AllD.cons rfl (fun K hK2 => ?_) ?_
      · skip
        go_simp
        have hb' := (Below.refl V.heap.size V).alloc (Nat.le_refl _) (.cells #[.slice none 0 0] 41)
        have hnew := Box.new V #[.slice none 0 0] 41
        replace zo := zo.below hb' zo.lt
        replace bx := bx.below hb'
        replace m4 := m4.below hb' m4.lt
        replace B := B.trans (hb'.mono B.size)
        refine hK2 _ _ ⟨.inr ⟨fun p hp => by simp at hp; rcases hp with rfl | rfl | rfl <;> rfl, fun q hq => by simp at hq; subst hq; exact bx⟩, ?_⟩
        clear hK2 K
        have z8 : w.heap.size + 2 ≤ V.heap.size := hz
        replace hz := Nat.le_trans hz hb'.size
        obtain ⟨b8, hb8⟩ : ∃ g, g = V.heap.size := ⟨_, rfl⟩
        rw [← hb8] at hnew z8 ⊢
        clear hb'
        have p8 := hnew
        clear hnew
        generalize V.alloc (.cells #[.slice none 0 0] 41) = V' at zo bx B hz p8 m4 ⊢
        clear hb8 V
        obtain ⟨V, rfl⟩ : ∃ V, V = V' := ⟨_, rfl⟩
        refine wpAnyD_ready (rs := [7, 9]) (by kernel_rfl) (by simp) ?_
        refine AllD.cons rfl (fun K hK2 => ?_) ?_
        · skip
          go_simp
          refine (body_at a n cap es V hl h0 hn (hEs.below B) hbl).mono ?_
          rintro x V' ⟨v7, rfl, ow, hb'⟩
          replace zo := zo.below hb' zo.lt
          replace bx := bx.below hb'
          replace m4 := m4.below hb' m4.lt
          replace p8 := p8.below hb'
          replace B := B.trans (hb'.mono B.size)
          refine hK2 _ _ ⟨.inr ⟨fun p hp => by simp at hp; rcases hp with rfl | rfl | rfl <;> rfl, fun q hq => by simp at hq; subst hq; exact bx⟩, ?_⟩
          clear hK2 K
          have r7 := owns_base ow hz
          replace hz := Nat.le_trans hz hb'.size
          obtain ⟨av, cv, rfl⟩ := owns_shape r7
          clear ow hb' V
          obtain ⟨V, rfl⟩ : ∃ V, V = V' := ⟨_, rfl⟩
          refine wpAnyD_ready (rs := [9]) (by kernel_rfl) (by simp) ?_
          refine AllD.cons rfl (fun K hK2 => ?_) ?_
          · skip
            go_simp
            have hb' := (Below.refl V.heap.size V).alloc (Nat.le_refl _) (.cells #[.slice none 0 0] 41)
            have hnew := Box.new V #[.slice none 0 0] 41
            have q8 := p8.lt
            replace zo := zo.below hb' zo.lt
            replace bx := bx.below hb'
            replace m4 := m4.below hb' m4.lt
            replace r7 := owns_below r7 hb'
            replace p8 := p8.below hb'
            replace B := B.trans (hb'.mono B.size)
            refine hK2 _ _ ⟨.inr ⟨fun p hp => by simp at hp; rcases hp with rfl | rfl | rfl <;> rfl, fun q hq => by simp at hq; subst hq; exact bx⟩, ?_⟩
            clear hK2 K
            have z9 : w.heap.size + 2 ≤ V.heap.size := hz
            replace hz := Nat.le_trans hz hb'.size
            obtain ⟨b9, hb9⟩ : ∃ g, g = V.heap.size := ⟨_, rfl⟩
            rw [← hb9] at hnew z9 q8 ⊢
            have h98 : b9 ≠ b8 := by omega
            clear q8
            clear hb'
            have p9 := hnew
            clear hnew
            generalize V.alloc (.cells #[.slice none 0 0] 41) = V' at zo bx B hz p9 m4 p8 r7 ⊢
            clear hb9 V
            obtain ⟨V, rfl⟩ : ∃ V, V = V' := ⟨_, rfl⟩
            refine wpAnyD_ready (rs := [10]) (by kernel_rfl) (by simp) (AllD.cons rfl (fun K hK2 => ?_) AllD.nil)
            have d8 := p8.cell 0
            have f8 := p8.frozen 0
            have bx' : Box (V.setCell ⟨b8, 0, none⟩ (.slice (some ⟨g4, 0, none⟩) 8 8)) w.heap.size _ 129 := (heap_setCell_other V ⟨b8, 0, none⟩ w.heap.size _ (by show w.heap.size ≠ b8; omega)).trans bx
            go_simp
            refine hK2 _ _ ⟨.inr ⟨fun p hp => by simp at hp; rcases hp with rfl | rfl | rfl <;> rfl, fun q hq => by simp at hq; subst hq; exact bx'⟩, ?_⟩
            clear hK2 K
            have hne : b9 ≠ b8 := h98
            have p9' : Box (V.setCell ⟨b8, 0, none⟩ (.slice (some ⟨g4, 0, none⟩) 8 8)) b9 #[.slice none 0 0] 41 := (heap_setCell_other V ⟨b8, 0, none⟩ b9 _ hne).trans p9
            have d9 := p9'.cell 0
            have f9 := p9'.frozen 0
            refine wpAnyD_ready (rs := [11]) (by kernel_rfl) (by simp) (AllD.cons rfl (fun K hK2 => ?_) AllD.nil)
            go_simp
            refine hK2 _ _ ⟨.inl rfl, ?_⟩
            clear hK2 K
            refine wpAnyD_done (by kernel_rfl) ?_ _
            exact ⟨rfl, g4, av, cv, b8, b9, rfl, putHI_end hne z8 z9 z4 (by rw [HM.out]; exact m4) (by rw [HBB.out]; exact r7) p8 p9, ((Own.other (Own.other zo (by omega)) (by omega))), (B.setCell (p := ⟨b8, 0, none⟩) (by show w.heap.size ≤ b8; omega) _).setCell (p := ⟨b9, 0, none⟩) (by show w.heap.size ≤ b9; omega) _⟩
          exact AllD.nil
        refine AllD.cons rfl (fun K hK2 => ?_) ?_
        · skip
          go_simp
          have hb' := (Below.refl V.heap.size V).alloc (Nat.le_refl _) (.cells #[.slice none 0 0] 41)
          have hnew := Box.new V #[.slice none 0 0] 41
          have q8 := p8.lt
          replace zo := zo.below hb' zo.lt
          replace bx := bx.below hb'
          replace m4 := m4.below hb' m4.lt
          replace p8 := p8.below hb'
          replace B := B.trans (hb'.mono B.size)
          refine hK2 _ _ ⟨.inr ⟨fun p hp => by simp at hp; rcases hp with rfl | rfl | rfl <;> rfl, fun q hq => by simp at hq; subst hq; exact bx⟩, ?_⟩
          clear hK2 K
          have z9 : w.heap.size + 2 ≤ V.heap.size := hz
          replace hz := Nat.le_trans hz hb'.size
          obtain ⟨b9, hb9⟩ : ∃ g, g = V.heap.size := ⟨_, rfl⟩
          rw [← hb9] at hnew z9 q8 ⊢
          have h98 : b9 ≠ b8 := by omega
          clear q8
          clear hb'
          have p9 := hnew
          clear hnew
          generalize V.alloc (.cells #[.slice none 0 0] 41) = V' at zo bx B hz p9 m4 p8 ⊢
          clear hb9 V
          obtain ⟨V, rfl⟩ : ∃ V, V = V' := ⟨_, rfl⟩
          refine wpAnyD_ready (rs := [7]) (by kernel_rfl) (by simp) ?_
          refine AllD.cons rfl (fun K hK2 => ?_) ?_
          · skip
            go_simp
            refine (body_at a n cap es V hl h0 hn (hEs.below B) hbl).mono ?_
            rintro x V' ⟨v7, rfl, ow, hb'⟩
            replace zo := zo.below hb' zo.lt
            replace bx := bx.below hb'
            replace m4 := m4.below hb' m4.lt
            replace p8 := p8.below hb'
            replace p9 := p9.below hb'
            replace B := B.trans (hb'.mono B.size)
            refine hK2 _ _ ⟨.inr ⟨fun p hp => by simp at hp; rcases hp with rfl | rfl | rfl <;> rfl, fun q hq => by simp at hq; subst hq; exact bx⟩, ?_⟩
            clear hK2 K
            have r7 := owns_base ow hz
            replace hz := Nat.le_trans hz hb'.size
            obtain ⟨av, cv, rfl⟩ := owns_shape r7
            clear ow hb' V
            obtain ⟨V, rfl⟩ : ∃ V, V = V' := ⟨_, rfl⟩
            refine wpAnyD_ready (rs := [10]) (by kernel_rfl) (by simp) (AllD.cons rfl (fun K hK2 => ?_) AllD.nil)
            have d8 := p8.cell 0
            have f8 := p8.frozen 0
            have bx' : Box (V.setCell ⟨b8, 0, none⟩ (.slice (some ⟨g4, 0, none⟩) 8 8)) w.heap.size _ 129 := (heap_setCell_other V ⟨b8, 0, none⟩ w.heap.size _ (by show w.heap.size ≠ b8; omega)).trans bx
            go_simp
            refine hK2 _ _ ⟨.inr ⟨fun p hp => by simp at hp; rcases hp with rfl | rfl | rfl <;> rfl, fun q hq => by simp at hq; subst hq; exact bx'⟩, ?_⟩
            clear hK2 K
            have hne : b9 ≠ b8 := h98
            have p9' : Box (V.setCell ⟨b8, 0, none⟩ (.slice (some ⟨g4, 0, none⟩) 8 8)) b9 #[.slice none 0 0] 41 := (heap_setCell_other V ⟨b8, 0, none⟩ b9 _ hne).trans p9
            have d9 := p9'.cell 0
            have f9 := p9'.frozen 0
            refine wpAnyD_ready (rs := [11]) (by kernel_rfl) (by simp) (AllD.cons rfl (fun K hK2 => ?_) AllD.nil)
            go_simp
            refine hK2 _ _ ⟨.inl rfl, ?_⟩
            clear hK2 K
            refine wpAnyD_done (by kernel_rfl) ?_ _
            exact ⟨rfl, g4, av, cv, b8, b9, rfl, putHI_end hne z8 z9 z4 (by rw [HM.out]; exact m4) (by rw [HBB.out]; exact r7) p8 p9, ((Own.other (Own.other zo (by omega)) (by omega))), (B.setCell (p := ⟨b8, 0, none⟩) (by show w.heap.size ≤ b8; omega) _).setCell (p := ⟨b9, 0, none⟩) (by show w.heap.size ≤ b9; omega) _⟩
          exact AllD.nil
        exact AllD.nil
      refine AllD.cons rfl (fun K hK2 => ?_) ?_
      · skip
        go_simp
        have hb' := (Below.refl V.heap.size V).alloc (Nat.le_refl _) (.cells #[.slice none 0 0] 41)
        have hnew := Box.new V #[.slice none 0 0] 41
        replace zo := zo.below hb' zo.lt
        replace bx := bx.below hb'
        replace m4 := m4.below hb' m4.lt
        replace B := B.trans (hb'.mono B.size)
        refine hK2 _ _ ⟨.inr ⟨fun p hp => by simp at hp; rcases hp with rfl | rfl | rfl <;> rfl, fun q hq => by simp at hq; subst hq; exact bx⟩, ?_⟩
        clear hK2 K
        have z9 : w.heap.size + 2 ≤ V.heap.size := hz
        replace hz := Nat.le_trans hz hb'.size
        obtain ⟨b9, hb9⟩ : ∃ g, g = V.heap.size := ⟨_, rfl⟩
        rw [← hb9] at hnew z9 ⊢
        clear hb'
        have p9 := hnew
        clear hnew
        generalize V.alloc (.cells #[.slice none 0 0] 41) = V' at zo bx B hz p9 m4 ⊢
        clear hb9 V
        obtain ⟨V, rfl⟩ : ∃ V, V = V' := ⟨_, rfl⟩
        refine wpAnyD_ready (rs := [7, 8]) (by kernel_rfl) (by simp) ?_
        refine AllD.cons rfl (fun K hK2 => ?_) ?_
        · skip
          go_simp
          refine (body_at a n cap es V hl h0 hn (hEs.below B) hbl).mono ?_
          rintro x V' ⟨v7, rfl, ow, hb'⟩
          replace zo := zo.below hb' zo.lt
          replace bx := bx.below hb'
          replace m4 := m4.below hb' m4.lt
          replace p9 := p9.below hb'
          replace B := B.trans (hb'.mono B.size)
          refine hK2 _ _ ⟨.inr ⟨fun p hp => by simp at hp; rcases hp with rfl | rfl | rfl <;> rfl, fun q hq => by simp at hq; subst hq; exact bx⟩, ?_⟩
          clear hK2 K
          have r7 := owns_base ow hz
          replace hz := Nat.le_trans hz hb'.size
          obtain ⟨av, cv, rfl⟩ := owns_shape r7
          clear ow hb' V
          obtain ⟨V, rfl⟩ : ∃ V, V = V' := ⟨_, rfl⟩
          refine wpAnyD_ready (rs := [8]) (by kernel_rfl) (by simp) ?_
          refine AllD.cons rfl (fun K hK2 => ?_) ?_
          · skip
            go_simp
            have hb' := (Below.refl V.heap.size V).alloc (Nat.le_refl _) (.cells #[.slice none 0 0] 41)
            have hnew := Box.new V #[.slice none 0 0] 41
            have q9 := p9.lt
            replace zo := zo.below hb' zo.lt
            replace bx := bx.below hb'
            replace m4 := m4.below hb' m4.lt
            replace r7 := owns_below r7 hb'
            replace p9 := p9.below hb'
            replace B := B.trans (hb'.mono B.size)
            refine hK2 _ _ ⟨.inr ⟨fun p hp => by simp at hp; rcases hp with rfl | rfl | rfl <;> rfl, fun q hq => by simp at hq; subst hq; exact bx⟩, ?_⟩
            clear hK2 K
            have z8 : w.heap.size + 2 ≤ V.heap.size := hz
            replace hz := Nat.le_trans hz hb'.size
            obtain ⟨b8, hb8⟩ : ∃ g, g = V.heap.size := ⟨_, rfl⟩
            rw [← hb8] at hnew z8 q9 ⊢
            have h98 : b9 ≠ b8 := by omega
            clear q9
            clear hb'
            have p8 := hnew
            clear hnew
            generalize V.alloc (.cells #[.slice none 0 0] 41) = V' at zo bx B hz p8 m4 p9 r7 ⊢
            clear hb8 V
            obtain ⟨V, rfl⟩ : ∃ V, V = V' := ⟨_, rfl⟩
            refine wpAnyD_ready (rs := [10]) (by kernel_rfl) (by simp) (AllD.cons rfl (fun K hK2 => ?_) AllD.nil)
            have d8 := p8.cell 0
            have f8 := p8.frozen 0
            have bx' : Box (V.setCell ⟨b8, 0, none⟩ (.slice (some ⟨g4, 0, none⟩) 8 8)) w.heap.size _ 129 := (heap_setCell_other V ⟨b8, 0, none⟩ w.heap.size _ (by show w.heap.size ≠ b8; omega)).trans bx
            go_simp
            refine hK2 _ _ ⟨.inr ⟨fun p hp => by simp at hp; rcases hp with rfl | rfl | rfl <;> rfl, fun q hq => by simp at hq; subst hq; exact bx'⟩, ?_⟩
            clear hK2 K
            have hne : b9 ≠ b8 := h98
            have p9' : Box (V.setCell ⟨b8, 0, none⟩ (.slice (some ⟨g4, 0, none⟩) 8 8)) b9 #[.slice none 0 0] 41 := (heap_setCell_other V ⟨b8, 0, none⟩ b9 _ hne).trans p9
            have d9 := p9'.cell 0
            have f9 := p9'.frozen 0
            refine wpAnyD_ready (rs := [11]) (by kernel_rfl) (by simp) (AllD.cons rfl (fun K hK2 => ?_) AllD.nil)
            go_simp
            refine hK2 _ _ ⟨.inl rfl, ?_⟩
            clear hK2 K
            refine wpAnyD_done (by kernel_rfl) ?_ _
            exact ⟨rfl, g4, av, cv, b8, b9, rfl, putHI_end hne z8 z9 z4 (by rw [HM.out]; exact m4) (by rw [HBB.out]; exact r7) p8 p9, ((Own.other (Own.other zo (by omega)) (by omega))), (B.setCell (p := ⟨b8, 0, none⟩) (by show w.heap.size ≤ b8; omega) _).setCell (p := ⟨b9, 0, none⟩) (by show w.heap.size ≤ b9; omega) _⟩
          exact AllD.nil
        refine AllD.cons rfl (fun K hK2 => ?_) ?_
        · skip
          go_simp
          have hb' := (Below.refl V.heap.size V).alloc (Nat.le_refl _) (.cells #[.slice none 0 0] 41)
          have hnew := Box.new V #[.slice none 0 0] 41
          have q9 := p9.lt
          replace zo := zo.below hb' zo.lt
          replace bx := bx.below hb'
          replace m4 := m4.below hb' m4.lt
          replace p9 := p9.below hb'
          replace B := B.trans (hb'.mono B.size)
          refine hK2 _ _ ⟨.inr ⟨fun p hp => by simp at hp; rcases hp with rfl | rfl | rfl <;> rfl, fun q hq => by simp at hq; subst hq; exact bx⟩, ?_⟩
          clear hK2 K
          have z8 : w.heap.size + 2 ≤ V.heap.size := hz
          replace hz := Nat.le_trans hz hb'.size
          obtain ⟨b8, hb8⟩ : ∃ g, g = V.heap.size := ⟨_, rfl⟩
          rw [← hb8] at hnew z8 q9 ⊢
          have h98 : b9 ≠ b8 := by omega
          clear q9
          clear hb'
          have p8 := hnew
          clear hnew
          generalize V.alloc (.cells #[.slice none 0 0] 41) = V' at zo bx B hz p8 m4 p9 ⊢
          clear hb8 V
          obtain ⟨V, rfl⟩ : ∃ V, V = V' := ⟨_, rfl⟩
          refine wpAnyD_ready (rs := [7]) (by kernel_rfl) (by simp) ?_
          refine AllD.cons rfl (fun K hK2 => ?_) ?_
          · skip
            go_simp
            refine (body_at a n cap es V hl h0 hn (hEs.below B) hbl).mono ?_
            rintro x V' ⟨v7, rfl, ow, hb'⟩
            replace zo := zo.below hb' zo.lt
            replace bx := bx.below hb'
            replace m4 := m4.below hb' m4.lt
            replace p8 := p8.below hb'
            replace p9 := p9.below hb'
            replace B := B.trans (hb'.mono B.size)
            refine hK2 _ _ ⟨.inr ⟨fun p hp => by simp at hp; rcases hp with rfl | rfl | rfl <;> rfl, fun q hq => by simp at hq; subst hq; exact bx⟩, ?_⟩
            clear hK2 K
            have r7 := owns_base ow hz
            replace hz := Nat.le_trans hz hb'.size
            obtain ⟨av, cv, rfl⟩ := owns_shape r7
            clear ow hb' V
            obtain ⟨V, rfl⟩ : ∃ V, V = V' := ⟨_, rfl⟩
            refine wpAnyD_ready (rs := [10]) (by kernel_rfl) (by simp) (AllD.cons rfl (fun K hK2 => ?_) AllD.nil)
            have d8 := p8.cell 0
            have f8 := p8.frozen 0
            have bx' : Box (V.setCell ⟨b8, 0, none⟩ (.slice (some ⟨g4, 0, none⟩) 8 8)) w.heap.size _ 129 := (heap_setCell_other V ⟨b8, 0, none⟩ w.heap.size _ (by show w.heap.size ≠ b8; omega)).trans bx
            go_simp
            refine hK2 _ _ ⟨.inr ⟨fun p hp => by simp at hp; rcases hp with rfl | rfl | rfl <;> rfl, fun q hq => by simp at hq; subst hq; exact bx'⟩, ?_⟩
            clear hK2 K
            have hne : b9 ≠ b8 := h98
            have p9' : Box (V.setCell ⟨b8, 0, none⟩ (.slice (some ⟨g4, 0, none⟩) 8 8)) b9 #[.slice none 0 0] 41 := (heap_setCell_other V ⟨b8, 0, none⟩ b9 _ hne).trans p9
            have d9 := p9'.cell 0
            have f9 := p9'.frozen 0
            refine wpAnyD_ready (rs := [11]) (by kernel_rfl) (by simp) (AllD.cons rfl (fun K hK2 => ?_) AllD.nil)
            go_simp
            refine hK2 _ _ ⟨.inl rfl, ?_⟩
            clear hK2 K
            refine wpAnyD_done (by kernel_rfl) ?_ _
            exact ⟨rfl, g4, av, cv, b8, b9, rfl, putHI_end hne z8 z9 z4 (by rw [HM.out]; exact m4) (by rw [HBB.out]; exact r7) p8 p9, ((Own.other (Own.other zo (by omega)) (by omega))), (B.setCell (p := ⟨b8, 0, none⟩) (by show w.heap.size ≤ b8; omega) _).setCell (p := ⟨b9, 0, none⟩) (by show w.heap.size ≤ b9; omega) _⟩
          exact AllD.nil
        exact AllD.nil
      exact AllD.nil
    refine AllD.cons rfl (fun K hK2 => ?_) ?_
    · skip
      go_simp
      have hb' := (Below.refl V.heap.size V).alloc (Nat.le_refl _) (.cells #[.slice none 0 0] 41)
      have hnew := Box.new V #[.slice none 0 0] 41
      replace zo := zo.below hb' zo.lt
      replace bx := bx.below hb'
      replace B := B.trans (hb'.mono B.size)
      refine hK2 _ _ ⟨.inr ⟨fun p hp => by simp at hp; rcases hp with rfl | rfl | rfl <;> rfl, fun q hq => by simp at hq; subst hq; exact bx⟩, ?_⟩
      clear hK2 K
      have z8 : w.heap.size + 2 ≤ V.heap.size := hz
      replace hz := Nat.le_trans hz hb'.size
      obtain ⟨b8, hb8⟩ : ∃ g, g = V.heap.size := ⟨_, rfl⟩
      rw [← hb8] at hnew z8 ⊢
      clear hb'
      have p8 := hnew
      clear hnew
      generalize V.alloc (.cells #[.slice none 0 0] 41) = V' at zo bx B hz p8 ⊢
      clear hb8 V
      obtain ⟨V, rfl⟩ : ∃ V, V = V' := ⟨_, rfl⟩
      refine wpAnyD_ready (rs := [4, 9]) (by kernel_rfl) (by simp) ?_
      refine AllD.cons rfl (fun K hK2 => ?_) ?_
      · skip
        go_simp
        refine (stamp_at e s _ _ V rfl rfl he hs).mono ?_
        rintro x V' ⟨rfl, ho, hb'⟩
        replace zo := zo.below hb' zo.lt
        replace bx := bx.below hb'
        replace p8 := p8.below hb'
        replace B := B.trans (hb'.mono B.size)
        refine hK2 _ _ ⟨.inr ⟨fun p hp => by simp at hp; rcases hp with rfl | rfl | rfl <;> rfl, fun q hq => by simp at hq; subst hq; exact bx⟩, ?_⟩
        clear hK2 K
        have z4 : w.heap.size + 2 ≤ V.heap.size := hz
        replace hz := Nat.le_trans hz hb'.size
        have m4 := ho
        obtain ⟨g4, hg4⟩ : ∃ g, g = V.heap.size := ⟨_, rfl⟩
        rw [← hg4] at m4 z4 ⊢
        clear ho hb' hg4 V
        obtain ⟨V, rfl⟩ : ∃ V, V = V' := ⟨_, rfl⟩
        refine wpAnyD_ready (rs := [7, 9]) (by kernel_rfl) (by simp) ?_
        refine AllD.cons rfl (fun K hK2 => ?_) ?_
        · skip
          go_simp
          refine (body_at a n cap es V hl h0 hn (hEs.below B) hbl).mono ?_
          rintro x V' ⟨v7, rfl, ow, hb'⟩
          replace zo := zo.below hb' zo.lt
          replace bx := bx.below hb'
          replace m4 := m4.below hb' m4.lt
          replace p8 := p8.below hb'
          replace B := B.trans (hb'.mono B.size)
          refine hK2 _ _ ⟨.inr ⟨fun p hp => by simp at hp; rcases hp with rfl | rfl | rfl <;> rfl, fun q hq => by simp at hq; subst hq; exact bx⟩, ?_⟩
          clear hK2 K
          have r7 := owns_base ow hz
          replace hz := Nat.le_trans hz hb'.size
          obtain ⟨av, cv, rfl⟩ := owns_shape r7
          clear ow hb' V
          obtain ⟨V, rfl⟩ : ∃ V, V = V' := ⟨_, rfl⟩
          refine wpAnyD_ready (rs := [9]) (by kernel_rfl) (by simp) ?_
          refine AllD.cons rfl (fun K hK2 => ?_) ?_
          · skip
            go_simp
            have hb' := (Below.refl V.heap.size V).alloc (Nat.le_refl _) (.cells #[.slice none 0 0] 41)
            have hnew := Box.new V #[.slice none 0 0] 41
            have q8 := p8.lt
            replace zo := zo.below hb' zo.lt
            replace bx := bx.below hb'
            replace m4 := m4.below hb' m4.lt
            replace r7 := owns_below r7 hb'
            replace p8 := p8.below hb'
            replace B := B.trans (hb'.mono B.size)
            refine hK2 _ _ ⟨.inr ⟨fun p hp => by simp at hp; rcases hp with rfl | rfl | rfl <;> rfl, fun q hq => by simp at hq; subst hq; exact bx⟩, ?_⟩
            clear hK2 K
            have z9 : w.heap.size + 2 ≤ V.heap.size := hz
            replace hz := Nat.le_trans hz hb'.size
            obtain ⟨b9, hb9⟩ : ∃ g, g = V.heap.size := ⟨_, rfl⟩
            rw [← hb9] at hnew z9 q8 ⊢
            have h98 : b9 ≠ b8 := by omega
            clear q8
            clear hb'
            have p9 := hnew
            clear hnew
            generalize V.alloc (.cells #[.slice none 0 0] 41) = V' at zo bx B hz p9 p8 m4 r7 ⊢
            clear hb9 V
            obtain ⟨V, rfl⟩ : ∃ V, V = V' := ⟨_, rfl⟩
            refine wpAnyD_ready (rs := [10]) (by kernel_rfl) (by simp) (AllD.cons rfl (fun K hK2 => ?_) AllD.nil)
            have d8 := p8.cell 0
            have f8 := p8.frozen 0
            have bx' : Box (V.setCell ⟨b8, 0, none⟩ (.slice (some ⟨g4, 0, none⟩) 8 8)) w.heap.size _ 129 := (heap_setCell_other V ⟨b8, 0, none⟩ w.heap.size _ (by show w.heap.size ≠ b8; omega)).trans bx
            go_simp
            refine hK2 _ _ ⟨.inr ⟨fun p hp => by simp at hp; rcases hp with rfl | rfl | rfl <;> rfl, fun q hq => by simp at hq; subst hq; exact bx'⟩, ?_⟩
            clear hK2 K
            have hne : b9 ≠ b8 := h98
            have p9' : Box (V.setCell ⟨b8, 0, none⟩ (.slice (some ⟨g4, 0, none⟩) 8 8)) b9 #[.slice none 0 0] 41 := (heap_setCell_other V ⟨b8, 0, none⟩ b9 _ hne).trans p9
            have d9 := p9'.cell 0
            have f9 := p9'.frozen 0
            refine wpAnyD_ready (rs := [11]) (by kernel_rfl) (by simp) (AllD.cons rfl (fun K hK2 => ?_) AllD.nil)
            go_simp
            refine hK2 _ _ ⟨.inl rfl, ?_⟩
            clear hK2 K
            refine wpAnyD_done (by kernel_rfl) ?_ _
            exact ⟨rfl, g4, av, cv, b8, b9, rfl, putHI_end hne z8 z9 z4 (by rw [HM.out]; exact m4) (by rw [HBB.out]; exact r7) p8 p9, ((Own.other (Own.other zo (by omega)) (by omega))), (B.setCell (p := ⟨b8, 0, none⟩) (by show w.heap.size ≤ b8; omega) _).setCell (p := ⟨b9, 0, none⟩) (by show w.heap.size ≤ b9; omega) _⟩
          exact AllD.nil
        refine AllD.cons rfl (fun K hK2 => ?_) ?_
        · skip
          go_simp
          have hb' := (Below.refl V.heap.size V).alloc (Nat.le_refl _) (.cells #[.slice none 0 0] 41)
          have hnew := Box.new V #[.slice none 0 0] 41
          have q8 := p8.lt
          replace zo := zo.below hb' zo.lt
          replace bx := bx.below hb'
          replace m4 := m4.below hb' m4.lt
          replace p8 := p8.below hb'
          replace B := B.trans (hb'.mono B.size)
          refine hK2 _ _ ⟨.inr ⟨fun p hp => by simp at hp; rcases hp with rfl | rfl | rfl <;> rfl, fun q hq => by simp at hq; subst hq; exact bx⟩, ?_⟩
          clear hK2 K
          have z9 : w.heap.size + 2 ≤ V.heap.size := hz
          replace hz := Nat.le_trans hz hb'.size
          obtain ⟨b9, hb9⟩ : ∃ g, g = V.heap.size := ⟨_, rfl⟩
          rw [← hb9] at hnew z9 q8 ⊢
          have h98 : b9 ≠ b8 := by omega
          clear q8
          clear hb'
          have p9 := hnew
          clear hnew
          generalize V.alloc (.cells #[.slice none 0 0] 41) = V' at zo bx B hz p9 p8 m4 ⊢
          clear hb9 V
          obtain ⟨V, rfl⟩ : ∃ V, V = V' := ⟨_, rfl⟩
          refine wpAnyD_ready (rs := [7]) (by kernel_rfl) (by simp) ?_
          refine AllD.cons rfl (fun K hK2 => ?_) ?_
          · skip
            go_simp
            refine (body_at a n cap es V hl h0 hn (hEs.below B) hbl).mono ?_
            rintro x V' ⟨v7, rfl, ow, hb'⟩
            replace zo := zo.below hb' zo.lt
            replace bx := bx.below hb'
            replace m4 := m4.below hb' m4.lt
            replace p8 := p8.below hb'
            replace p9 := p9.below hb'
            replace B := B.trans (hb'.mono B.size)
            refine hK2 _ _ ⟨.inr ⟨fun p hp => by simp at hp; rcases hp with rfl | rfl | rfl <;> rfl, fun q hq => by simp at hq; subst hq; exact bx⟩, ?_⟩
            clear hK2 K
            have r7 := owns_base ow hz
            replace hz := Nat.le_trans hz hb'.size
            obtain ⟨av, cv, rfl⟩ := owns_shape r7
            clear ow hb' V
            obtain ⟨V, rfl⟩ : ∃ V, V = V' := ⟨_, rfl⟩
            refine wpAnyD_ready (rs := [10]) (by kernel_rfl) (by simp) (AllD.cons rfl (fun K hK2 => ?_) AllD.nil)
            have d8 := p8.cell 0
            have f8 := p8.frozen 0
            have bx' : Box (V.setCell ⟨b8, 0, none⟩ (.slice (some ⟨g4, 0, none⟩) 8 8)) w.heap.size _ 129 := (heap_setCell_other V ⟨b8, 0, none⟩ w.heap.size _ (by show w.heap.size ≠ b8; omega)).trans bx
            go_simp
            refine hK2 _ _ ⟨.inr ⟨fun p hp => by simp at hp; rcases hp with rfl | rfl | rfl <;> rfl, fun q hq => by simp at hq; subst hq; exact bx'⟩, ?_⟩
            clear hK2 K
            have hne : b9 ≠ b8 := h98
            have p9' : Box (V.setCell ⟨b8, 0, none⟩ (.slice (some ⟨g4, 0, none⟩) 8 8)) b9 #[.slice none 0 0] 41 := (heap_setCell_other V ⟨b8, 0, none⟩ b9 _ hne).trans p9
            have d9 := p9'.cell 0
            have f9 := p9'.frozen 0
            refine wpAnyD_ready (rs := [11]) (by kernel_rfl) (by simp) (AllD.cons rfl (fun K hK2 => ?_) AllD.nil)
            go_simp
            refine hK2 _ _ ⟨.inl rfl, ?_⟩
            clear hK2 K
            refine wpAnyD_done (by kernel_rfl) ?_ _
            exact ⟨rfl, g4, av, cv, b8, b9, rfl, putHI_end hne z8 z9 z4 (by rw [HM.out]; exact m4) (by rw [HBB.out]; exact r7) p8 p9, ((Own.other (Own.other zo (by omega)) (by omega))), (B.setCell (p := ⟨b8, 0, none⟩) (by show w.heap.size ≤ b8; omega) _).setCell (p := ⟨b9, 0, none⟩) (by show w.heap.size ≤ b9; omega) _⟩
          exact AllD.nil
        exact AllD.nil
      refine AllD.cons rfl (fun K hK2 => ?_) ?_
      · skip
        go_simp
        have hb' := (Below.refl V.heap.size V).alloc (Nat.le_refl _) (.cells #[.slice none 0 0] 41)
        have hnew := Box.new V #[.slice none 0 0] 41
        have q8 := p8.lt
        replace zo := zo.below hb' zo.lt
        replace bx := bx.below hb'
        replace p8 := p8.below hb'
        replace B := B.trans (hb'.mono B.size)
        refine hK2 _ _ ⟨.inr ⟨fun p hp => by simp at hp; rcases hp with rfl | rfl | rfl <;> rfl, fun q hq => by simp at hq; subst hq; exact bx⟩, ?_⟩
        clear hK2 K
        have z9 : w.heap.size + 2 ≤ V.heap.size := hz
        replace hz := Nat.le_trans hz hb'.size
        obtain ⟨b9, hb9⟩ : ∃ g, g = V.heap.size := ⟨_, rfl⟩
        rw [← hb9] at hnew z9 q8 ⊢
        have h98 : b9 ≠ b8 := by omega
        clear q8
        clear hb'
        have p9 := hnew
        clear hnew
        generalize V.alloc (.cells #[.slice none 0 0] 41) = V' at zo bx B hz p9 p8 ⊢
        clear hb9 V
        obtain ⟨V, rfl⟩ : ∃ V, V = V' := ⟨_, rfl⟩
        refine wpAnyD_ready (rs := [4]) (by kernel_rfl) (by simp) ?_
        refine AllD.cons rfl (fun K hK2 => ?_) ?_
        · skip
          go_simp
          refine (stamp_at e s _ _ V rfl rfl he hs).mono ?_
          rintro x V' ⟨rfl, ho, hb'⟩
          replace zo := zo.below hb' zo.lt
          replace bx := bx.below hb'
          replace p8 := p8.below hb'
          replace p9 := p9.below hb'
          replace B := B.trans (hb'.mono B.size)
          refine hK2 _ _ ⟨.inr ⟨fun p hp => by simp at hp; rcases hp with rfl | rfl | rfl <;> rfl, fun q hq => by simp at hq; subst hq; exact bx⟩, ?_⟩
          clear hK2 K
          have z4 : w.heap.size + 2 ≤ V.heap.size := hz
          replace hz := Nat.le_trans hz hb'.size
          have m4 := ho
          obtain ⟨g4, hg4⟩ : ∃ g, g = V.heap.size := ⟨_, rfl⟩
          rw [← hg4] at m4 z4 ⊢
          clear ho hb' hg4 V
          obtain ⟨V, rfl⟩ : ∃ V, V = V' := ⟨_, rfl⟩
          refine wpAnyD_ready (rs := [7]) (by kernel_rfl) (by simp) ?_
          refine AllD.cons rfl (fun K hK2 => ?_) ?_
          · skip
            go_simp
            refine (body_at a n cap es V hl h0 hn (hEs.below B) hbl).mono ?_
            rintro x V' ⟨v7, rfl, ow, hb'⟩
            replace zo := zo.below hb' zo.lt
            replace bx := bx.below hb'
            replace m4 := m4.below hb' m4.lt
            replace p8 := p8.below hb'
            replace p9 := p9.below hb'
            replace B := B.trans (hb'.mono B.size)
            refine hK2 _ _ ⟨.inr ⟨fun p hp => by simp at hp; rcases hp with rfl | rfl | rfl <;> rfl, fun q hq => by simp at hq; subst hq; exact bx⟩, ?_⟩
            clear hK2 K
            have r7 := owns_base ow hz
            replace hz := Nat.le_trans hz hb'.size
            obtain ⟨av, cv, rfl⟩ := owns_shape r7
            clear ow hb' V
            obtain ⟨V, rfl⟩ : ∃ V, V = V' := ⟨_, rfl⟩
            refine wpAnyD_ready (rs := [10]) (by kernel_rfl) (by simp) (AllD.cons rfl (fun K hK2 => ?_) AllD.nil)
            have d8 := p8.cell 0
            have f8 := p8.frozen 0
            have bx' : Box (V.setCell ⟨b8, 0, none⟩ (.slice (some ⟨g4, 0, none⟩) 8 8)) w.heap.size _ 129 := (heap_setCell_other V ⟨b8, 0, none⟩ w.heap.size _ (by show w.heap.size ≠ b8; omega)).trans bx
            go_simp
            refine hK2 _ _ ⟨.inr ⟨fun p hp => by simp at hp; rcases hp with rfl | rfl | rfl <;> rfl, fun q hq => by simp at hq; subst hq; exact bx'⟩, ?_⟩
            clear hK2 K
            have hne : b9 ≠ b8 := h98
            have p9' : Box (V.setCell ⟨b8, 0, none⟩ (.slice (some ⟨g4, 0, none⟩) 8 8)) b9 #[.slice none 0 0] 41 := (heap_setCell_other V ⟨b8, 0, none⟩ b9 _ hne).trans p9
            have d9 := p9'.cell 0
            have f9 := p9'.frozen 0
            refine wpAnyD_ready (rs := [11]) (by kernel_rfl) (by simp) (AllD.cons rfl (fun K hK2 => ?_) AllD.nil)
            go_simp
            refine hK2 _ _ ⟨.inl rfl, ?_⟩
            clear hK2 K
            refine wpAnyD_done (by kernel_rfl) ?_ _
            exact ⟨rfl, g4, av, cv, b8, b9, rfl, putHI_end hne z8 z9 z4 (by rw [HM.out]; exact m4) (by rw [HBB.out]; exact r7) p8 p9, ((Own.other (Own.other zo (by omega)) (by omega))), (B.setCell (p := ⟨b8, 0, none⟩) (by show w.heap.size ≤ b8; omega) _).setCell (p := ⟨b9, 0, none⟩) (by show w.heap.size ≤ b9; omega) _⟩
          exact AllD.nil
        exact AllD.nil
      exact AllD.nil
    refine AllD.cons rfl (fun K hK2 => ?_) ?_
    · skip
      go_simp
      have hb' := (Below.refl V.heap.size V).alloc (Nat.le_refl _) (.cells #[.slice none 0 0] 41)
      have hnew := Box.new V #[.slice none 0 0] 41
      replace zo := zo.below hb' zo.lt
      replace bx := bx.below hb'
      replace B := B.trans (hb'.mono B.size)
      refine hK2 _ _ ⟨.inr ⟨fun p hp => by simp at hp; rcases hp with rfl | rfl | rfl <;> rfl, fun q hq => by simp at hq; subst hq; exact bx⟩, ?_⟩
      clear hK2 K
      have z9 : w.heap.size + 2 ≤ V.heap.size := hz
      replace hz := Nat.le_trans hz hb'.size
      obtain ⟨b9, hb9⟩ : ∃ g, g = V.heap.size := ⟨_, rfl⟩
      rw [← hb9] at hnew z9 ⊢
      clear hb'
      have p9 := hnew
      clear hnew
      generalize V.alloc (.cells #[.slice none 0 0] 41) = V' at zo bx B hz p9 ⊢
      clear hb9 V
      obtain ⟨V, rfl⟩ : ∃ V, V = V' := ⟨_, rfl⟩
      refine wpAnyD_ready (rs := [4, 8]) (by kernel_rfl) (by simp) ?_
      refine AllD.cons rfl (fun K hK2 => ?_) ?_
      · skip
        go_simp
        refine (stamp_at e s _ _ V rfl rfl he hs).mono ?_
        rintro x V' ⟨rfl, ho, hb'⟩
        replace zo := zo.below hb' zo.lt
        replace bx := bx.below hb'
        replace p9 := p9.below hb'
        replace B := B.trans (hb'.mono B.size)
        refine hK2 _ _ ⟨.inr ⟨fun p hp => by simp at hp; rcases hp with rfl | rfl | rfl <;> rfl, fun q hq => by simp at hq; subst hq; exact bx⟩, ?_⟩
        clear hK2 K
        have z4 : w.heap.size + 2 ≤ V.heap.size := hz
        replace hz := Nat.le_trans hz hb'.size
        have m4 := ho
        obtain ⟨g4, hg4⟩ : ∃ g, g = V.heap.size := ⟨_, rfl⟩
        rw [← hg4] at m4 z4 ⊢
        clear ho hb' hg4 V
        obtain ⟨V, rfl⟩ : ∃ V, V = V' := ⟨_, rfl⟩
        refine wpAnyD_ready (rs := [7, 8]) (by kernel_rfl) (by simp) ?_
        refine AllD.cons rfl (fun K hK2 => ?_) ?_
        · skip
          go_simp
          refine (body_at a n cap es V hl h0 hn (hEs.below B) hbl).mono ?_
          rintro x V' ⟨v7, rfl, ow, hb'⟩
          replace zo := zo.below hb' zo.lt
          replace bx := bx.below hb'
          replace m4 := m4.below hb' m4.lt
          replace p9 := p9.below hb'
          replace B := B.trans (hb'.mono B.size)
          refine hK2 _ _ ⟨.inr ⟨fun p hp => by simp at hp; rcases hp with rfl | rfl | rfl <;> rfl, fun q hq => by simp at hq; subst hq; exact bx⟩, ?_⟩
          clear hK2 K
          have r7 := owns_base ow hz
          replace hz := Nat.le_trans hz hb'.size
          obtain ⟨av, cv, rfl⟩ := owns_shape r7
          clear ow hb' V
          obtain ⟨V, rfl⟩ : ∃ V, V = V' := ⟨_, rfl⟩
          refine wpAnyD_ready (rs := [8]) (by kernel_rfl) (by simp) ?_
          refine AllD.cons rfl (fun K hK2 => ?_) ?_
          · skip
            go_simp
            have hb' := (Below.refl V.heap.size V).alloc (Nat.le_refl _) (.cells #[.slice none 0 0] 41)
            have hnew := Box.new V #[.slice none 0 0] 41
            have q9 := p9.lt
            replace zo := zo.below hb' zo.lt
            replace bx := bx.below hb'
            replace m4 := m4.below hb' m4.lt
            replace r7 := owns_below r7 hb'
            replace p9 := p9.below hb'
            replace B := B.trans (hb'.mono B.size)
            refine hK2 _ _ ⟨.inr ⟨fun p hp => by simp at hp; rcases hp with rfl | rfl | rfl <;> rfl, fun q hq => by simp at hq; subst hq; exact bx⟩, ?_⟩
            clear hK2 K
            have z8 : w.heap.size + 2 ≤ V.heap.size := hz
            replace hz := Nat.le_trans hz hb'.size
            obtain ⟨b8, hb8⟩ : ∃ g, g = V.heap.size := ⟨_, rfl⟩
            rw [← hb8] at hnew z8 q9 ⊢
            have h98 : b9 ≠ b8 := by omega
            clear q9
            clear hb'
            have p8 := hnew
            clear hnew
            generalize V.alloc (.cells #[.slice none 0 0] 41) = V' at zo bx B hz p8 p9 m4 r7 ⊢
            clear hb8 V
            obtain ⟨V, rfl⟩ : ∃ V, V = V' := ⟨_, rfl⟩
            refine wpAnyD_ready (rs := [10]) (by kernel_rfl) (by simp) (AllD.cons rfl (fun K hK2 => ?_) AllD.nil)
            have d8 := p8.cell 0
            have f8 := p8.frozen 0
            have bx' : Box (V.setCell ⟨b8, 0, none⟩ (.slice (some ⟨g4, 0, none⟩) 8 8)) w.heap.size _ 129 := (heap_setCell_other V ⟨b8, 0, none⟩ w.heap.size _ (by show w.heap.size ≠ b8; omega)).trans bx
            go_simp
            refine hK2 _ _ ⟨.inr ⟨fun p hp => by simp at hp; rcases hp with rfl | rfl | rfl <;> rfl, fun q hq => by simp at hq; subst hq; exact bx'⟩, ?_⟩
            clear hK2 K
            have hne : b9 ≠ b8 := h98
            have p9' : Box (V.setCell ⟨b8, 0, none⟩ (.slice (some ⟨g4, 0, none⟩) 8 8)) b9 #[.slice none 0 0] 41 := (heap_setCell_other V ⟨b8, 0, none⟩ b9 _ hne).trans p9
            have d9 := p9'.cell 0
            have f9 := p9'.frozen 0
            refine wpAnyD_ready (rs := [11]) (by kernel_rfl) (by simp) (AllD.cons rfl (fun K hK2 => ?_) AllD.nil)
            go_simp
            refine hK2 _ _ ⟨.inl rfl, ?_⟩
            clear hK2 K
            refine wpAnyD_done (by kernel_rfl) ?_ _
            exact ⟨rfl, g4, av, cv, b8, b9, rfl, putHI_end hne z8 z9 z4 (by rw [HM.out]; exact m4) (by rw [HBB.out]; exact r7) p8 p9, ((Own.other (Own.other zo (by omega)) (by omega))), (B.setCell (p := ⟨b8, 0, none⟩) (by show w.heap.size ≤ b8; omega) _).setCell (p := ⟨b9, 0, none⟩) (by show w.heap.size ≤ b9; omega) _⟩
          exact AllD.nil
        refine AllD.cons rfl (fun K hK2 => ?_) ?_
        · skip
          go_simp
          have hb' := (Below.refl V.heap.size V).alloc (Nat.le_refl _) (.cells #[.slice none 0 0] 41)
          have hnew := Box.new V #[.slice none 0 0] 41
          have q9 := p9.lt
          replace zo := zo.below hb' zo.lt
          replace bx := bx.below hb'
          replace m4 := m4.below hb' m4.lt
          replace p9 := p9.below hb'
          replace B := B.trans (hb'.mono B.size)
          refine hK2 _ _ ⟨.inr ⟨fun p hp => by simp at hp; rcases hp with rfl | rfl | rfl <;> rfl, fun q hq => by simp at hq; subst hq; exact bx⟩, ?_⟩
          clear hK2 K
          have z8 : w.heap.size + 2 ≤ V.heap.size := hz
          replace hz := Nat.le_trans hz hb'.size
          obtain ⟨b8, hb8⟩ : ∃ g, g = V.heap.size := ⟨_, rfl⟩
          rw [← hb8] at hnew z8 q9 ⊢
          have h98 : b9 ≠ b8 := by omega
          clear q9
          clear hb'
          have p8 := hnew
          clear hnew
          generalize V.alloc (.cells #[.slice none 0 0] 41) = V' at zo bx B hz p8 p9 m4 ⊢
          clear hb8 V
          obtain ⟨V, rfl⟩ : ∃ V, V = V' := ⟨_, rfl⟩
          refine wpAnyD_ready (rs := [7]) (by kernel_rfl) (by simp) ?_
          refine AllD.cons rfl (fun K hK2 => ?_) ?_
          · skip
            go_simp
            refine (body_at a n cap es V hl h0 hn (hEs.below B) hbl).mono ?_
            rintro x V' ⟨v7, rfl, ow, hb'⟩
            replace zo := zo.below hb' zo.lt
            replace bx := bx.below hb'
            replace m4 := m4.below hb' m4.lt
            replace p8 := p8.below hb'
            replace p9 := p9.below hb'
            replace B := B.trans (hb'.mono B.size)
            refine hK2 _ _ ⟨.inr ⟨fun p hp => by simp at hp; rcases hp with rfl | rfl | rfl <;> rfl, fun q hq => by simp at hq; subst hq; exact bx⟩, ?_⟩
            clear hK2 K
            have r7 := owns_base ow hz
            replace hz := Nat.le_trans hz hb'.size
            obtain ⟨av, cv, rfl⟩ := owns_shape r7
            clear ow hb' V
            obtain ⟨V, rfl⟩ : ∃ V, V = V' := ⟨_, rfl⟩
            refine wpAnyD_ready (rs := [10]) (by kernel_rfl) (by simp) (AllD.cons rfl (fun K hK2 => ?_) AllD.nil)
            have d8 := p8.cell 0
            have f8 := p8.frozen 0
            have bx' : Box (V.setCell ⟨b8, 0, none⟩ (.slice (some ⟨g4, 0, none⟩) 8 8)) w.heap.size _ 129 := (heap_setCell_other V ⟨b8, 0, none⟩ w.heap.size _ (by show w.heap.size ≠ b8; omega)).trans bx
            go_simp
            refine hK2 _ _ ⟨.inr ⟨fun p hp => by simp at hp; rcases hp with rfl | rfl | rfl <;> rfl, fun q hq => by simp at hq; subst hq; exact bx'⟩, ?_⟩
            clear hK2 K
            have hne : b9 ≠ b8 := h98
            have p9' : Box (V.setCell ⟨b8, 0, none⟩ (.slice (some ⟨g4, 0, none⟩) 8 8)) b9 #[.slice none 0 0] 41 := (heap_setCell_other V ⟨b8, 0, none⟩ b9 _ hne).trans p9
            have d9 := p9'.cell 0
            have f9 := p9'.frozen 0
            refine wpAnyD_ready (rs := [11]) (by kernel_rfl) (by simp) (AllD.cons rfl (fun K hK2 => ?_) AllD.nil)
            go_simp
            refine hK2 _ _ ⟨.inl rfl, ?_⟩
            clear hK2 K
            refine wpAnyD_done (by kernel_rfl) ?_ _
            exact ⟨rfl, g4, av, cv, b8, b9, rfl, putHI_end hne z8 z9 z4 (by rw [HM.out]; exact m4) (by rw [HBB.out]; exact r7) p8 p9, ((Own.other (Own.other zo (by omega)) (by omega))), (B.setCell (p := ⟨b8, 0, none⟩) (by show w.heap.size ≤ b8; omega) _).setCell (p := ⟨b9, 0, none⟩) (by show w.heap.size ≤ b9; omega) _⟩
          exact AllD.nil
        exact AllD.nil
      refine AllD.cons rfl (fun K hK2 => ?_) ?_
      · skip
        go_simp
        have hb' := (Below.refl V.heap.size V).alloc (Nat.le_refl _) (.cells #[.slice none 0 0] 41)
        have hnew := Box.new V #[.slice none 0 0] 41
        have q9 := p9.lt
        replace zo := zo.below hb' zo.lt
        replace bx := bx.below hb'
        replace p9 := p9.below hb'
        replace B := B.trans (hb'.mono B.size)
        refine hK2 _ _ ⟨.inr ⟨fun p hp => by simp at hp; rcases hp with rfl | rfl | rfl <;> rfl, fun q hq => by simp at hq; subst hq; exact bx⟩, ?_⟩
        clear hK2 K
        have z8 : w.heap.size + 2 ≤ V.heap.size := hz
        replace hz := Nat.le_trans hz hb'.size
        obtain ⟨b8, hb8⟩ : ∃ g, g = V.heap.size := ⟨_, rfl⟩
        rw [← hb8] at hnew z8 q9 ⊢
        have h98 : b9 ≠ b8 := by omega
        clear q9
        clear hb'
        have p8 := hnew
        clear hnew
        generalize V.alloc (.cells #[.slice none 0 0] 41) = V' at zo bx B hz p8 p9 ⊢
        clear hb8 V
        obtain ⟨V, rfl⟩ : ∃ V, V = V' := ⟨_, rfl⟩
        refine wpAnyD_ready (rs := [4]) (by kernel_rfl) (by simp) ?_
        refine AllD.cons rfl (fun K hK2 => ?_) ?_
        · skip
          go_simp
          refine (stamp_at e s _ _ V rfl rfl he hs).mono ?_
          rintro x V' ⟨rfl, ho, hb'⟩
          replace zo := zo.below hb' zo.lt
          replace bx := bx.below hb'
          replace p8 := p8.below hb'
          replace p9 := p9.below hb'
          replace B := B.trans (hb'.mono B.size)
          refine hK2 _ _ ⟨.inr ⟨fun p hp => by simp at hp; rcases hp with rfl | rfl | rfl <;> rfl, fun q hq => by simp at hq; subst hq; exact bx⟩, ?_⟩
          clear hK2 K
          have z4 : w.heap.size + 2 ≤ V.heap.size := hz
          replace hz := Nat.le_trans hz hb'.size
          have m4 := ho
          obtain ⟨g4, hg4⟩ : ∃ g, g = V.heap.size := ⟨_, rfl⟩
          rw [← hg4] at m4 z4 ⊢
          clear ho hb' hg4 V
          obtain ⟨V, rfl⟩ : ∃ V, V = V' := ⟨_, rfl⟩
          refine wpAnyD_ready (rs := [7]) (by kernel_rfl) (by simp) ?_
          refine AllD.cons rfl (fun K hK2 => ?_) ?_
          · skip
            go_simp
            refine (body_at a n cap es V hl h0 hn (hEs.below B) hbl).mono ?_
            rintro x V' ⟨v7, rfl, ow, hb'⟩
            replace zo := zo.below hb' zo.lt
            replace bx := bx.below hb'
            replace m4 := m4.below hb' m4.lt
            replace p8 := p8.below hb'
            replace p9 := p9.below hb'
            replace B := B.trans (hb'.mono B.size)
            refine hK2 _ _ ⟨.inr ⟨fun p hp => by simp at hp; rcases hp with rfl | rfl | rfl <;> rfl, fun q hq => by simp at hq; subst hq; exact bx⟩, ?_⟩
            clear hK2 K
            have r7 := owns_base ow hz
            replace hz := Nat.le_trans hz hb'.size
            obtain ⟨av, cv, rfl⟩ := owns_shape r7
            clear ow hb' V
            obtain ⟨V, rfl⟩ : ∃ V, V = V' := ⟨_, rfl⟩
            refine wpAnyD_ready (rs := [10]) (by kernel_rfl) (by simp) (AllD.cons rfl (fun K hK2 => ?_) AllD.nil)
            have d8 := p8.cell 0
            have f8 := p8.frozen 0
            have bx' : Box (V.setCell ⟨b8, 0, none⟩ (.slice (some ⟨g4, 0, none⟩) 8 8)) w.heap.size _ 129 := (heap_setCell_other V ⟨b8, 0, none⟩ w.heap.size _ (by show w.heap.size ≠ b8; omega)).trans bx
            go_simp
            refine hK2 _ _ ⟨.inr ⟨fun p hp => by simp at hp; rcases hp with rfl | rfl | rfl <;> rfl, fun q hq => by simp at hq; subst hq; exact bx'⟩, ?_⟩
            clear hK2 K
            have hne : b9 ≠ b8 := h98
            have p9' : Box (V.setCell ⟨b8, 0, none⟩ (.slice (some ⟨g4, 0, none⟩) 8 8)) b9 #[.slice none 0 0] 41 := (heap_setCell_other V ⟨b8, 0, none⟩ b9 _ hne).trans p9
            have d9 := p9'.cell 0
            have f9 := p9'.frozen 0
            refine wpAnyD_ready (rs := [11]) (by kernel_rfl) (by simp) (AllD.cons rfl (fun K hK2 => ?_) AllD.nil)
            go_simp
            refine hK2 _ _ ⟨.inl rfl, ?_⟩
            clear hK2 K
            refine wpAnyD_done (by kernel_rfl) ?_ _
            exact ⟨rfl, g4, av, cv, b8, b9, rfl, putHI_end hne z8 z9 z4 (by rw [HM.out]; exact m4) (by rw [HBB.out]; exact r7) p8 p9, ((Own.other (Own.other zo (by omega)) (by omega))), (B.setCell (p := ⟨b8, 0, none⟩) (by show w.heap.size ≤ b8; omega) _).setCell (p := ⟨b9, 0, none⟩) (by show w.heap.size ≤ b9; omega) _⟩
          exact AllD.nil
        exact AllD.nil
      exact AllD.nil
    exact AllD.nil
  case tail =>
    rintro x A W ⟨rfl, g4, av, cv, b8, b9, rfl, hI, zo, B⟩
    clear hm
    gi_wp2_with fail
    refine ⟨trivial, ?_⟩
    refine (sectors_in 2 _ _ _ _).mono ?_
    rintro r w' ⟨rfl, rfl⟩
    gi_wp2_with fail
    obtain ⟨⟨z8, z9, hne⟩, p8, p9, ⟨z4, m4⟩, r7⟩ := hI
    obtain ⟨gr, cv', hcv, _, hgr, hrow⟩ : ∃ gr cv', Value.slice av 4032 cv = .slice (some ⟨gr, 0, none⟩) 4032 cv' ∧ 0 < 1 ∧ w.heap.size + 2 ≤ gr ∧ RowB W gr cv' BB := by
      obtain ⟨gr, c', h1, h2, h3⟩ := RowB.owns r7 (by omega)
      exact ⟨gr, c', h1, by omega, h2, h3⟩
    obtain ⟨rfl, _, rfl⟩ : av = some ⟨gr, 0, none⟩ ∧ 4032 = 4032 ∧ cv = cv' := by simpa using hcv
    clear hcv r7
    have hcl : BB.length = 4032 := by rw [HBB.out]; exact bodyB_length es (H64.out) (by rw [hl]; exact hn)
    have hcvb : 4032 ≤ cv ∧ cv ≤ 9223372036854775807 := by
      obtain ⟨cur, _, q1, q2, _⟩ := hrow
      unfold maxLen at q2
      omega
    have hML : M.length = 8 := by rw [HM.out]; exact mark_length _ _
    have hZL : Z.length = 4096 := by rw [HZ.out]; exact nought_length _
    have hz0 := RowB.own zo (by rw [hZL]; unfold maxLen; omega)
    rw [hZL] at hz0
    have al := (Below.refl W.heap.size W).alloc (Nat.le_refl _) (.cells #[.slice (some ⟨w.heap.size + 1, 0, none⟩) 4096 4096] 41)
    have bS := Box.new W #[.slice (some ⟨w.heap.size + 1, 0, none⟩) 4096 4096] 41
    have q9 := p9.lt
    replace p8 := p8.below al
    replace p9 := p9.below al
    replace m4 := m4.below al m4.lt
    replace hrow := hrow.same (al.block _ hrow.lt)
    replace hz0 := hz0.same (al.block _ hz0.lt)
    replace B := B.trans (al.mono B.size)
    have s3 : (W.alloc (.cells #[.slice (some ⟨w.heap.size + 1, 0, none⟩) 4096 4096] 41)).heap.size = W.heap.size + 1 := by simp
    generalize W.alloc (.cells #[.slice (some ⟨w.heap.size + 1, 0, none⟩) 4096 4096] 41) = W0 at *
    have l8 := zo.lt
    obtain ⟨k1, hk1⟩ : ∃ k, k = W.heap.size := ⟨_, rfl⟩
    rw [← hk1] at bS s3 l8 q9 ⊢
    have nk9 : b9 ≠ k1 := by have := q9; omega
    clear al zo hk1 q9
    have hs3 : k1 + 1 ≤ W0.heap.size := by omega
    have hs4 : w.heap.size < W0.heap.size := by omega
    clear s3
    obtain ⟨hc1, hc2⟩ := hcvb
    have HCL : Hid _ := hcl
    have HML : Hid _ := hML
    have HZL : Hid _ := hZL
    clear hcl hML hZL
    have y1 : 4032 - 0 * 504 = 4032 := rfl
    have y2 : cv - 0 * 504 = cv := by omega
    refine wpIn_rangeFunc_ownH (α := Fin 8) rfl (by omega) (gf := 105) (lb := #[.pointer (some ⟨k1, 0, none⟩)]) rfl trivial (enters_of Tryz.func105 (by kernel_rfl) rfl)
      (sect_stops (3 - 1) (by omega) k1 (w.heap.size + 1) 0 4096 (Nat.le_refl _) (by omega) W0 (by omega) (bS.cell 0)) cellK_t (cellK_b (by omega)) (Below.refl _ _) (fun _ => rfl)
      (fun pre W => PutI (w.heap.size + 1) g4 gr cv b8 b9 k1 M BB (putTo Z M BB pre).1 pre.length W ∧ Below w.heap.size w W)
      (fun c _ W => False ∧ Below w.heap.size w W)
      (OwnFrom.and (Own.from (fun s A B row hs hg hr => hs.kept hg hr) _) (ownFrom_below (Nat.le_refl _) (by omega)))
      (fun c => OwnFrom.and (Own.from (fun s A B row hs hg hr => hs) _) (ownFrom_below (Nat.le_refl _) (by omega)))
      ⟨⟨hz0, p8, ⟨0, by rw [List.length_nil, y1, y2]; exact p9, fun _ => by simp⟩, m4, hrow, ⟨_, bS⟩⟩, B⟩
      (fun x a' _ => a' = { tmps := #[.agg #[.int .i64 (e : Int), .int .i64 (s : Int), .slice a n cap], .pointer (some ⟨w.heap.size, 0, none⟩), .slice none 0 0, .slice (some ⟨w.heap.size + 1, 0, none⟩) 4096 4096, .pointer (some ⟨b8, 0, none⟩), .pointer (some ⟨b9, 0, none⟩), .slice (some ⟨w.heap.size + 1, x.val * 512, none⟩) 512 512, .slice (some ⟨w.heap.size + 1, 0, none⟩) 4096 4096, .pointer (some ⟨w.heap.size, 0, none⟩), .int .i64 (e : Int), .pointer (some ⟨w.heap.size, 1, none⟩), .int .i64 (s : Int), .slice (some ⟨g4, 0, none⟩) 8 8, .pointer (some ⟨w.heap.size, 2, none⟩), .slice a n cap, .slice (some ⟨gr, 0, none⟩) 4032 cv, .slice (some ⟨w.heap.size + 1, 0, none⟩) 4096 4096, .func (.func 105) #[] #[.pointer (some ⟨k1, 0, none⟩)], .slice (some ⟨w.heap.size + 1, x.val * 512, none⟩) 512 512, undef, undef, undef, undef, undef, undef, undef, undef, undef, undef], defers := [] })
      (fun x a' => ownFrom_pure _ _) ?assign ?body ?done ?stop
    case assign =>
      rintro l pre x W K hI hK
      dsimp only [encS]
      simp only [Nat.zero_add]
      gi_wp2
      exact hK _ _ (KeepsFrom.refl _ _) rfl hI rfl
    case body =>
      rintro l pre x a' W hlw ⟨r, hr1⟩ ⟨hI, hB⟩ rfl hlt2
      have hx8 := x.isLt
      have hd1 := putTo_length Z M BB HZL.out HML.out HCL.out pre (by omega)
      have hd2 := putTo_two Z M BB pre
      obtain ⟨k, hk⟩ : ∃ k, pre.length = k := ⟨_, rfl⟩
      rw [hk] at hI hlt2 hd2
      obtain ⟨d, hd⟩ : ∃ d, (putTo Z M BB pre).1 = d := ⟨_, rfl⟩
      rw [hd] at hI hd1
      have hsnoc : Hid ((putTo Z M BB (pre ++ [x])).1 = over (over d (x.val * 512) M) (x.val * 512 + 8) ((BB.drop (k * 504)).take 504)) := by
        show _ = _
        rw [putTo_snoc]
        unfold putStep
        rw [hd, hd2]
      have hlen : Hid ((pre ++ [x]).length = k + 1) := by show _ = _; simp [hk]
      clear hk hd hd2
      obtain ⟨W5, W6, L, C, hr5, hr6, e8, e9, e9b, f9, hLC, hF⟩ := puth_round w W (w.heap.size + 1) g4 gr cv b8 b9 k1 k M BB d x z8 z9 nk9 hne hlt2 hd1 HML.out HCL.out hc1 hc2 rfl (by omega) (by omega) hI hB
      obtain ⟨m1, m2, m3, m4', m5⟩ := hLC
      have HF : Hid _ := hF
      have HO : Hid _ := m5
      clear hF m5 hI
      have e9c : W5.drew.cell? ⟨b9, 0, none⟩ = some (.slice (some ⟨gr, k * 504, none⟩) L C) := e9
      have hr6' : ∀ ty, (Builtin.copy_ #[41, 41] ty #[.slice (some ⟨w.heap.size + 1, x.val * 512 + 8, none⟩) 504 504, .slice (some ⟨gr, k * 504, none⟩) L C]).run Tryz.prog W5.drew = .ok (.int .i64 504) W6 := hr6
      by_cases hC : C = 504
      · subst hC
        obtain rfl : L = 504 := by omega
        gi_wp2_with fail
        refine wpIn_region_any (by kernel_rfl) ?_
        change wpAnyIn _ _ _ _ _ _ _ _ _ (World.drew _)
        refine wpAnyIn_ready (rs := [0, 1, 3]) (by kernel_rfl) (by simp) ?_
        refine AllReadyIn.cons rfl (fun K hK2 => ?_) ?_
        · skip
          go_simp
          refine hK2 _ _ ?_
          clear hK2 K
          refine wpAnyIn_ready (rs := [1, 3]) (by kernel_rfl) (by simp) ?_
          refine AllReadyIn.cons rfl (fun K hK2 => ?_) ?_
          · skip
            go_simp
            refine hK2 _ _ ?_
            clear hK2 K
            refine wpAnyIn_ready (rs := [2, 3]) (by kernel_rfl) (by simp) ?_
            refine AllReadyIn.cons rfl (fun K hK2 => ?_) ?_
            · skip
              go_simp
              refine hK2 _ _ ?_
              clear hK2 K
              refine wpAnyIn_ready (rs := [3]) (by kernel_rfl) (by simp) ?_
              refine AllReadyIn.cons rfl (fun K hK2 => ?_) ?_
              · skip
                go_simp
                refine hK2 _ _ ?_
                clear hK2 K
                refine wpAnyIn_ready (rs := [4]) (by kernel_rfl) (by simp) ?_
                refine AllReadyIn.cons rfl (fun K hK2 => ?_) ?_
                · skip
                  go_simp
                  refine hK2 _ _ ?_
                  clear hK2 K
                  refine wpAnyIn_ready (rs := [5]) (by kernel_rfl) (by simp) ?_
                  refine AllReadyIn.cons rfl (fun K hK2 => ?_) ?_
                  · skip
                    go_simp
                    refine hK2 _ _ ?_
                    clear hK2 K
                    refine wpAnyIn_ready (rs := [6]) (by kernel_rfl) (by simp) ?_
                    refine AllReadyIn.cons rfl (fun K hK2 => ?_) ?_
                    · skip
                      go_simp
                      refine hK2 _ _ ?_
                      clear hK2 K
                      refine wpAnyIn_done (by kernel_rfl) ?_ _
                      gi_wp2
                      obtain ⟨x1, x2, x3, x4⟩ := HF.out (.slice (some ⟨gr, k * 504, none⟩) 0 0) ⟨k * 504, rfl, fun h => absurd rfl (HO.out h)⟩
                      exact ⟨x1.from _, x2, by rw [hsnoc.out, hlen.out]; exact x3, x4⟩
                    exact AllReadyIn.nil
                  exact AllReadyIn.nil
                exact AllReadyIn.nil
              exact AllReadyIn.nil
            refine AllReadyIn.cons rfl (fun K hK2 => ?_) ?_
            · skip
              go_simp
              refine hK2 _ _ ?_
              clear hK2 K
              refine wpAnyIn_ready (rs := [2]) (by kernel_rfl) (by simp) ?_
              refine AllReadyIn.cons rfl (fun K hK2 => ?_) ?_
              · skip
                go_simp
                refine hK2 _ _ ?_
                clear hK2 K
                refine wpAnyIn_ready (rs := [4]) (by kernel_rfl) (by simp) ?_
                refine AllReadyIn.cons rfl (fun K hK2 => ?_) ?_
                · skip
                  go_simp
                  refine hK2 _ _ ?_
                  clear hK2 K
                  refine wpAnyIn_ready (rs := [5]) (by kernel_rfl) (by simp) ?_
                  refine AllReadyIn.cons rfl (fun K hK2 => ?_) ?_
                  · skip
                    go_simp
                    refine hK2 _ _ ?_
                    clear hK2 K
                    refine wpAnyIn_ready (rs := [6]) (by kernel_rfl) (by simp) ?_
                    refine AllReadyIn.cons rfl (fun K hK2 => ?_) ?_
                    · skip
                      go_simp
                      refine hK2 _ _ ?_
                      clear hK2 K
                      refine wpAnyIn_done (by kernel_rfl) ?_ _
                      gi_wp2
                      obtain ⟨x1, x2, x3, x4⟩ := HF.out (.slice (some ⟨gr, k * 504, none⟩) 0 0) ⟨k * 504, rfl, fun h => absurd rfl (HO.out h)⟩
                      exact ⟨x1.from _, x2, by rw [hsnoc.out, hlen.out]; exact x3, x4⟩
                    exact AllReadyIn.nil
                  exact AllReadyIn.nil
                exact AllReadyIn.nil
              exact AllReadyIn.nil
            exact AllReadyIn.nil
          refine AllReadyIn.cons rfl (fun K hK2 => ?_) ?_
          · skip
            go_simp
            refine hK2 _ _ ?_
            clear hK2 K
            refine wpAnyIn_ready (rs := [1]) (by kernel_rfl) (by simp) ?_
            refine AllReadyIn.cons rfl (fun K hK2 => ?_) ?_
            · skip
              go_simp
              refine hK2 _ _ ?_
              clear hK2 K
              refine wpAnyIn_ready (rs := [2]) (by kernel_rfl) (by simp) ?_
              refine AllReadyIn.cons rfl (fun K hK2 => ?_) ?_
              · skip
                go_simp
                refine hK2 _ _ ?_
                clear hK2 K
                refine wpAnyIn_ready (rs := [4]) (by kernel_rfl) (by simp) ?_
                refine AllReadyIn.cons rfl (fun K hK2 => ?_) ?_
                · skip
                  go_simp
                  refine hK2 _ _ ?_
                  clear hK2 K
                  refine wpAnyIn_ready (rs := [5]) (by kernel_rfl) (by simp) ?_
                  refine AllReadyIn.cons rfl (fun K hK2 => ?_) ?_
                  · skip
                    go_simp
                    refine hK2 _ _ ?_
                    clear hK2 K
                    refine wpAnyIn_ready (rs := [6]) (by kernel_rfl) (by simp) ?_
                    refine AllReadyIn.cons rfl (fun K hK2 => ?_) ?_
                    · skip
                      go_simp
                      refine hK2 _ _ ?_
                      clear hK2 K
                      refine wpAnyIn_done (by kernel_rfl) ?_ _
                      gi_wp2
                      obtain ⟨x1, x2, x3, x4⟩ := HF.out (.slice (some ⟨gr, k * 504, none⟩) 0 0) ⟨k * 504, rfl, fun h => absurd rfl (HO.out h)⟩
                      exact ⟨x1.from _, x2, by rw [hsnoc.out, hlen.out]; exact x3, x4⟩
                    exact AllReadyIn.nil
                  exact AllReadyIn.nil
                exact AllReadyIn.nil
              exact AllReadyIn.nil
            exact AllReadyIn.nil
          exact AllReadyIn.nil
        refine AllReadyIn.cons rfl (fun K hK2 => ?_) ?_
        · skip
          go_simp
          refine hK2 _ _ ?_
          clear hK2 K
          refine wpAnyIn_ready (rs := [0, 2, 3]) (by kernel_rfl) (by simp) ?_
          refine AllReadyIn.cons rfl (fun K hK2 => ?_) ?_
          · skip
            go_simp
            refine hK2 _ _ ?_
            clear hK2 K
            refine wpAnyIn_ready (rs := [2, 3]) (by kernel_rfl) (by simp) ?_
            refine AllReadyIn.cons rfl (fun K hK2 => ?_) ?_
            · skip
              go_simp
              refine hK2 _ _ ?_
              clear hK2 K
              refine wpAnyIn_ready (rs := [3]) (by kernel_rfl) (by simp) ?_
              refine AllReadyIn.cons rfl (fun K hK2 => ?_) ?_
              · skip
                go_simp
                refine hK2 _ _ ?_
                clear hK2 K
                refine wpAnyIn_ready (rs := [4]) (by kernel_rfl) (by simp) ?_
                refine AllReadyIn.cons rfl (fun K hK2 => ?_) ?_
                · skip
                  go_simp
                  refine hK2 _ _ ?_
                  clear hK2 K
                  refine wpAnyIn_ready (rs := [5]) (by kernel_rfl) (by simp) ?_
                  refine AllReadyIn.cons rfl (fun K hK2 => ?_) ?_
                  · skip
                    go_simp
                    refine hK2 _ _ ?_
                    clear hK2 K
                    refine wpAnyIn_ready (rs := [6]) (by kernel_rfl) (by simp) ?_
                    refine AllReadyIn.cons rfl (fun K hK2 => ?_) ?_
                    · skip
                      go_simp
                      refine hK2 _ _ ?_
                      clear hK2 K
                      refine wpAnyIn_done (by kernel_rfl) ?_ _
                      gi_wp2
                      obtain ⟨x1, x2, x3, x4⟩ := HF.out (.slice (some ⟨gr, k * 504, none⟩) 0 0) ⟨k * 504, rfl, fun h => absurd rfl (HO.out h)⟩
                      exact ⟨x1.from _, x2, by rw [hsnoc.out, hlen.out]; exact x3, x4⟩
                    exact AllReadyIn.nil
                  exact AllReadyIn.nil
                exact AllReadyIn.nil
              exact AllReadyIn.nil
            refine AllReadyIn.cons rfl (fun K hK2 => ?_) ?_
            · skip
              go_simp
              refine hK2 _ _ ?_
              clear hK2 K
              refine wpAnyIn_ready (rs := [2]) (by kernel_rfl) (by simp) ?_
              refine AllReadyIn.cons rfl (fun K hK2 => ?_) ?_
              · skip
                go_simp
                refine hK2 _ _ ?_
                clear hK2 K
                refine wpAnyIn_ready (rs := [4]) (by kernel_rfl) (by simp) ?_
                refine AllReadyIn.cons rfl (fun K hK2 => ?_) ?_
                · skip
                  go_simp
                  refine hK2 _ _ ?_
                  clear hK2 K
                  refine wpAnyIn_ready (rs := [5]) (by kernel_rfl) (by simp) ?_
                  refine AllReadyIn.cons rfl (fun K hK2 => ?_) ?_
                  · skip
                    go_simp
                    refine hK2 _ _ ?_
                    clear hK2 K
                    refine wpAnyIn_ready (rs := [6]) (by kernel_rfl) (by simp) ?_
                    refine AllReadyIn.cons rfl (fun K hK2 => ?_) ?_
                    · skip
                      go_simp
                      refine hK2 _ _ ?_
                      clear hK2 K
                      refine wpAnyIn_done (by kernel_rfl) ?_ _
                      gi_wp2
                      obtain ⟨x1, x2, x3, x4⟩ := HF.out (.slice (some ⟨gr, k * 504, none⟩) 0 0) ⟨k * 504, rfl, fun h => absurd rfl (HO.out h)⟩
                      exact ⟨x1.from _, x2, by rw [hsnoc.out, hlen.out]; exact x3, x4⟩
                    exact AllReadyIn.nil
                  exact AllReadyIn.nil
                exact AllReadyIn.nil
              exact AllReadyIn.nil
            exact AllReadyIn.nil
          refine AllReadyIn.cons rfl (fun K hK2 => ?_) ?_
          · skip
            go_simp
            refine hK2 _ _ ?_
            clear hK2 K
            refine wpAnyIn_ready (rs := [0, 3]) (by kernel_rfl) (by simp) ?_
            refine AllReadyIn.cons rfl (fun K hK2 => ?_) ?_
            · skip
              go_simp
              refine hK2 _ _ ?_
              clear hK2 K
              refine wpAnyIn_ready (rs := [3]) (by kernel_rfl) (by simp) ?_
              refine AllReadyIn.cons rfl (fun K hK2 => ?_) ?_
              · skip
                go_simp
                refine hK2 _ _ ?_
                clear hK2 K
                refine wpAnyIn_ready (rs := [4]) (by kernel_rfl) (by simp) ?_
                refine AllReadyIn.cons rfl (fun K hK2 => ?_) ?_
                · skip
                  go_simp
                  refine hK2 _ _ ?_
                  clear hK2 K
                  refine wpAnyIn_ready (rs := [5]) (by kernel_rfl) (by simp) ?_
                  refine AllReadyIn.cons rfl (fun K hK2 => ?_) ?_
                  · skip
                    go_simp
                    refine hK2 _ _ ?_
                    clear hK2 K
                    refine wpAnyIn_ready (rs := [6]) (by kernel_rfl) (by simp) ?_
                    refine AllReadyIn.cons rfl (fun K hK2 => ?_) ?_
                    · skip
                      go_simp
                      refine hK2 _ _ ?_
                      clear hK2 K
                      refine wpAnyIn_done (by kernel_rfl) ?_ _
                      gi_wp2
                      obtain ⟨x1, x2, x3, x4⟩ := HF.out (.slice (some ⟨gr, k * 504, none⟩) 0 0) ⟨k * 504, rfl, fun h => absurd rfl (HO.out h)⟩
                      exact ⟨x1.from _, x2, by rw [hsnoc.out, hlen.out]; exact x3, x4⟩
                    exact AllReadyIn.nil
                  exact AllReadyIn.nil
                exact AllReadyIn.nil
              exact AllReadyIn.nil
            refine AllReadyIn.cons rfl (fun K hK2 => ?_) ?_
            · skip
              go_simp
              refine hK2 _ _ ?_
              clear hK2 K
              refine wpAnyIn_ready (rs := [0, 4]) (by kernel_rfl) (by simp) ?_
              refine AllReadyIn.cons rfl (fun K hK2 => ?_) ?_
              · skip
                go_simp
                refine hK2 _ _ ?_
                clear hK2 K
                refine wpAnyIn_ready (rs := [4]) (by kernel_rfl) (by simp) ?_
                refine AllReadyIn.cons rfl (fun K hK2 => ?_) ?_
                · skip
                  go_simp
                  refine hK2 _ _ ?_
                  clear hK2 K
                  refine wpAnyIn_ready (rs := [5]) (by kernel_rfl) (by simp) ?_
                  refine AllReadyIn.cons rfl (fun K hK2 => ?_) ?_
                  · skip
                    go_simp
                    refine hK2 _ _ ?_
                    clear hK2 K
                    refine wpAnyIn_ready (rs := [6]) (by kernel_rfl) (by simp) ?_
                    refine AllReadyIn.cons rfl (fun K hK2 => ?_) ?_
                    · skip
                      go_simp
                      refine hK2 _ _ ?_
                      clear hK2 K
                      refine wpAnyIn_done (by kernel_rfl) ?_ _
                      gi_wp2
                      obtain ⟨x1, x2, x3, x4⟩ := HF.out (.slice (some ⟨gr, k * 504, none⟩) 0 0) ⟨k * 504, rfl, fun h => absurd rfl (HO.out h)⟩
                      exact ⟨x1.from _, x2, by rw [hsnoc.out, hlen.out]; exact x3, x4⟩
                    exact AllReadyIn.nil
                  exact AllReadyIn.nil
                exact AllReadyIn.nil
              refine AllReadyIn.cons rfl (fun K hK2 => ?_) ?_
              · skip
                go_simp
                refine hK2 _ _ ?_
                clear hK2 K
                refine wpAnyIn_ready (rs := [0]) (by kernel_rfl) (by simp) ?_
                refine AllReadyIn.cons rfl (fun K hK2 => ?_) ?_
                · skip
                  go_simp
                  refine hK2 _ _ ?_
                  clear hK2 K
                  refine wpAnyIn_ready (rs := [5]) (by kernel_rfl) (by simp) ?_
                  refine AllReadyIn.cons rfl (fun K hK2 => ?_) ?_
                  · skip
                    go_simp
                    refine hK2 _ _ ?_
                    clear hK2 K
                    refine wpAnyIn_ready (rs := [6]) (by kernel_rfl) (by simp) ?_
                    refine AllReadyIn.cons rfl (fun K hK2 => ?_) ?_
                    · skip
                      go_simp
                      refine hK2 _ _ ?_
                      clear hK2 K
                      refine wpAnyIn_done (by kernel_rfl) ?_ _
                      gi_wp2
                      obtain ⟨x1, x2, x3, x4⟩ := HF.out (.slice (some ⟨gr, k * 504, none⟩) 0 0) ⟨k * 504, rfl, fun h => absurd rfl (HO.out h)⟩
                      exact ⟨x1.from _, x2, by rw [hsnoc.out, hlen.out]; exact x3, x4⟩
                    exact AllReadyIn.nil
                  exact AllReadyIn.nil
                exact AllReadyIn.nil
              exact AllReadyIn.nil
            exact AllReadyIn.nil
          refine AllReadyIn.cons rfl (fun K hK2 => ?_) ?_
          · skip
            go_simp
            refine hK2 _ _ ?_
            clear hK2 K
            refine wpAnyIn_ready (rs := [0, 2]) (by kernel_rfl) (by simp) ?_
            refine AllReadyIn.cons rfl (fun K hK2 => ?_) ?_
            · skip
              go_simp
              refine hK2 _ _ ?_
              clear hK2 K
              refine wpAnyIn_ready (rs := [2]) (by kernel_rfl) (by simp) ?_
              refine AllReadyIn.cons rfl (fun K hK2 => ?_) ?_
              · skip
                go_simp
                refine hK2 _ _ ?_
                clear hK2 K
                refine wpAnyIn_ready (rs := [4]) (by kernel_rfl) (by simp) ?_
                refine AllReadyIn.cons rfl (fun K hK2 => ?_) ?_
                · skip
                  go_simp
                  refine hK2 _ _ ?_
                  clear hK2 K
                  refine wpAnyIn_ready (rs := [5]) (by kernel_rfl) (by simp) ?_
                  refine AllReadyIn.cons rfl (fun K hK2 => ?_) ?_
                  · skip
                    go_simp
                    refine hK2 _ _ ?_
                    clear hK2 K
                    refine wpAnyIn_ready (rs := [6]) (by kernel_rfl) (by simp) ?_
                    refine AllReadyIn.cons rfl (fun K hK2 => ?_) ?_
                    · skip
                      go_simp
                      refine hK2 _ _ ?_
                      clear hK2 K
                      refine wpAnyIn_done (by kernel_rfl) ?_ _
                      gi_wp2
                      obtain ⟨x1, x2, x3, x4⟩ := HF.out (.slice (some ⟨gr, k * 504, none⟩) 0 0) ⟨k * 504, rfl, fun h => absurd rfl (HO.out h)⟩
                      exact ⟨x1.from _, x2, by rw [hsnoc.out, hlen.out]; exact x3, x4⟩
                    exact AllReadyIn.nil
                  exact AllReadyIn.nil
                exact AllReadyIn.nil
              exact AllReadyIn.nil
            refine AllReadyIn.cons rfl (fun K hK2 => ?_) ?_
            · skip
              go_simp
              refine hK2 _ _ ?_
              clear hK2 K
              refine wpAnyIn_ready (rs := [0, 4]) (by kernel_rfl) (by simp) ?_
              refine AllReadyIn.cons rfl (fun K hK2 => ?_) ?_
              · skip
                go_simp
                refine hK2 _ _ ?_
                clear hK2 K
                refine wpAnyIn_ready (rs := [4]) (by kernel_rfl) (by simp) ?_
                refine AllReadyIn.cons rfl (fun K hK2 => ?_) ?_
                · skip
                  go_simp
                  refine hK2 _ _ ?_
                  clear hK2 K
                  refine wpAnyIn_ready (rs := [5]) (by kernel_rfl) (by simp) ?_
                  refine AllReadyIn.cons rfl (fun K hK2 => ?_) ?_
                  · skip
                    go_simp
                    refine hK2 _ _ ?_
                    clear hK2 K
                    refine wpAnyIn_ready (rs := [6]) (by kernel_rfl) (by simp) ?_
                    refine AllReadyIn.cons rfl (fun K hK2 => ?_) ?_
                    · skip
                      go_simp
                      refine hK2 _ _ ?_
                      clear hK2 K
                      refine wpAnyIn_done (by kernel_rfl) ?_ _
                      gi_wp2
                      obtain ⟨x1, x2, x3, x4⟩ := HF.out (.slice (some ⟨gr, k * 504, none⟩) 0 0) ⟨k * 504, rfl, fun h => absurd rfl (HO.out h)⟩
                      exact ⟨x1.from _, x2, by rw [hsnoc.out, hlen.out]; exact x3, x4⟩
                    exact AllReadyIn.nil
                  exact AllReadyIn.nil
                exact AllReadyIn.nil
              refine AllReadyIn.cons rfl (fun K hK2 => ?_) ?_
              · skip
                go_simp
                refine hK2 _ _ ?_
                clear hK2 K
                refine wpAnyIn_ready (rs := [0]) (by kernel_rfl) (by simp) ?_
                refine AllReadyIn.cons rfl (fun K hK2 => ?_) ?_
                · skip
                  go_simp
                  refine hK2 _ _ ?_
                  clear hK2 K
                  refine wpAnyIn_ready (rs := [5]) (by kernel_rfl) (by simp) ?_
                  refine AllReadyIn.cons rfl (fun K hK2 => ?_) ?_
                  · skip
                    go_simp
                    refine hK2 _ _ ?_
                    clear hK2 K
                    refine wpAnyIn_ready (rs := [6]) (by kernel_rfl) (by simp) ?_
                    refine AllReadyIn.cons rfl (fun K hK2 => ?_) ?_
                    · skip
                      go_simp
                      refine hK2 _ _ ?_
                      clear hK2 K
                      refine wpAnyIn_done (by kernel_rfl) ?_ _
                      gi_wp2
                      obtain ⟨x1, x2, x3, x4⟩ := HF.out (.slice (some ⟨gr, k * 504, none⟩) 0 0) ⟨k * 504, rfl, fun h => absurd rfl (HO.out h)⟩
                      exact ⟨x1.from _, x2, by rw [hsnoc.out, hlen.out]; exact x3, x4⟩
                    exact AllReadyIn.nil
                  exact AllReadyIn.nil
                exact AllReadyIn.nil
              exact AllReadyIn.nil
            exact AllReadyIn.nil
          exact AllReadyIn.nil
        refine AllReadyIn.cons rfl (fun K hK2 => ?_) ?_
        · skip
          go_simp
          refine hK2 _ _ ?_
          clear hK2 K
          refine wpAnyIn_ready (rs := [0, 1]) (by kernel_rfl) (by simp) ?_
          refine AllReadyIn.cons rfl (fun K hK2 => ?_) ?_
          · skip
            go_simp
            refine hK2 _ _ ?_
            clear hK2 K
            refine wpAnyIn_ready (rs := [1]) (by kernel_rfl) (by simp) ?_
            refine AllReadyIn.cons rfl (fun K hK2 => ?_) ?_
            · skip
              go_simp
              refine hK2 _ _ ?_
              clear hK2 K
              refine wpAnyIn_ready (rs := [2]) (by kernel_rfl) (by simp) ?_
              refine AllReadyIn.cons rfl (fun K hK2 => ?_) ?_
              · skip
                go_simp
                refine hK2 _ _ ?_
                clear hK2 K
                refine wpAnyIn_ready (rs := [4]) (by kernel_rfl) (by simp) ?_
                refine AllReadyIn.cons rfl (fun K hK2 => ?_) ?_
                · skip
                  go_simp
                  refine hK2 _ _ ?_
                  clear hK2 K
                  refine wpAnyIn_ready (rs := [5]) (by kernel_rfl) (by simp) ?_
                  refine AllReadyIn.cons rfl (fun K hK2 => ?_) ?_
                  · skip
                    go_simp
                    refine hK2 _ _ ?_
                    clear hK2 K
                    refine wpAnyIn_ready (rs := [6]) (by kernel_rfl) (by simp) ?_
                    refine AllReadyIn.cons rfl (fun K hK2 => ?_) ?_
                    · skip
                      go_simp
                      refine hK2 _ _ ?_
                      clear hK2 K
                      refine wpAnyIn_done (by kernel_rfl) ?_ _
                      gi_wp2
                      obtain ⟨x1, x2, x3, x4⟩ := HF.out (.slice (some ⟨gr, k * 504, none⟩) 0 0) ⟨k * 504, rfl, fun h => absurd rfl (HO.out h)⟩
                      exact ⟨x1.from _, x2, by rw [hsnoc.out, hlen.out]; exact x3, x4⟩
                    exact AllReadyIn.nil
                  exact AllReadyIn.nil
                exact AllReadyIn.nil
              exact AllReadyIn.nil
            exact AllReadyIn.nil
          refine AllReadyIn.cons rfl (fun K hK2 => ?_) ?_
          · skip
            go_simp
            refine hK2 _ _ ?_
            clear hK2 K
            refine wpAnyIn_ready (rs := [0, 2]) (by kernel_rfl) (by simp) ?_
            refine AllReadyIn.cons rfl (fun K hK2 => ?_) ?_
            · skip
              go_simp
              refine hK2 _ _ ?_
              clear hK2 K
              refine wpAnyIn_ready (rs := [2]) (by kernel_rfl) (by simp) ?_
              refine AllReadyIn.cons rfl (fun K hK2 => ?_) ?_
              · skip
                go_simp
                refine hK2 _ _ ?_
                clear hK2 K
                refine wpAnyIn_ready (rs := [4]) (by kernel_rfl) (by simp) ?_
                refine AllReadyIn.cons rfl (fun K hK2 => ?_) ?_
                · skip
                  go_simp
                  refine hK2 _ _ ?_
                  clear hK2 K
                  refine wpAnyIn_ready (rs := [5]) (by kernel_rfl) (by simp) ?_
                  refine AllReadyIn.cons rfl (fun K hK2 => ?_) ?_
                  · skip
                    go_simp
                    refine hK2 _ _ ?_
                    clear hK2 K
                    refine wpAnyIn_ready (rs := [6]) (by kernel_rfl) (by simp) ?_
                    refine AllReadyIn.cons rfl (fun K hK2 => ?_) ?_
                    · skip
                      go_simp
                      refine hK2 _ _ ?_
                      clear hK2 K
                      refine wpAnyIn_done (by kernel_rfl) ?_ _
                      gi_wp2
                      obtain ⟨x1, x2, x3, x4⟩ := HF.out (.slice (some ⟨gr, k * 504, none⟩) 0 0) ⟨k * 504, rfl, fun h => absurd rfl (HO.out h)⟩
                      exact ⟨x1.from _, x2, by rw [hsnoc.out, hlen.out]; exact x3, x4⟩
                    exact AllReadyIn.nil
                  exact AllReadyIn.nil
                exact AllReadyIn.nil
              exact AllReadyIn.nil
            refine AllReadyIn.cons rfl (fun K hK2 => ?_) ?_
            · skip
              go_simp
              refine hK2 _ _ ?_
              clear hK2 K
              refine wpAnyIn_ready (rs := [0, 4]) (by kernel_rfl) (by simp) ?_
              refine AllReadyIn.cons rfl (fun K hK2 => ?_) ?_
              · skip
                go_simp
                refine hK2 _ _ ?_
                clear hK2 K
                refine wpAnyIn_ready (rs := [4]) (by kernel_rfl) (by simp) ?_
                refine AllReadyIn.cons rfl (fun K hK2 => ?_) ?_
                · skip
                  go_simp
                  refine hK2 _ _ ?_
                  clear hK2 K
                  refine wpAnyIn_ready (rs := [5]) (by kernel_rfl) (by simp) ?_
                  refine AllReadyIn.cons rfl (fun K hK2 => ?_) ?_
                  · skip
                    go_simp
                    refine hK2 _ _ ?_
                    clear hK2 K
                    refine wpAnyIn_ready (rs := [6]) (by kernel_rfl) (by simp) ?_
                    refine AllReadyIn.cons rfl (fun K hK2 => ?_) ?_
                    · skip
                      go_simp
                      refine hK2 _ _ ?_
                      clear hK2 K
                      refine wpAnyIn_done (by kernel_rfl) ?_ _
                      gi_wp2
                      obtain ⟨x1, x2, x3, x4⟩ := HF.out (.slice (some ⟨gr, k * 504, none⟩) 0 0) ⟨k * 504, rfl, fun h => absurd rfl (HO.out h)⟩
                      exact ⟨x1.from _, x2, by rw [hsnoc.out, hlen.out]; exact x3, x4⟩
                    exact AllReadyIn.nil
                  exact AllReadyIn.nil
                exact AllReadyIn.nil
              refine AllReadyIn.cons rfl (fun K hK2 => ?_) ?_
              · skip
                go_simp
                refine hK2 _ _ ?_
                clear hK2 K
                refine wpAnyIn_ready (rs := [0]) (by kernel_rfl) (by simp) ?_
                refine AllReadyIn.cons rfl (fun K hK2 => ?_) ?_
                · skip
                  go_simp
                  refine hK2 _ _ ?_
                  clear hK2 K
                  refine wpAnyIn_ready (rs := [5]) (by kernel_rfl) (by simp) ?_
                  refine AllReadyIn.cons rfl (fun K hK2 => ?_) ?_
                  · skip
                    go_simp
                    refine hK2 _ _ ?_
                    clear hK2 K
                    refine wpAnyIn_ready (rs := [6]) (by kernel_rfl) (by simp) ?_
                    refine AllReadyIn.cons rfl (fun K hK2 => ?_) ?_
                    · skip
                      go_simp
                      refine hK2 _ _ ?_
                      clear hK2 K
                      refine wpAnyIn_done (by kernel_rfl) ?_ _
                      gi_wp2
                      obtain ⟨x1, x2, x3, x4⟩ := HF.out (.slice (some ⟨gr, k * 504, none⟩) 0 0) ⟨k * 504, rfl, fun h => absurd rfl (HO.out h)⟩
                      exact ⟨x1.from _, x2, by rw [hsnoc.out, hlen.out]; exact x3, x4⟩
                    exact AllReadyIn.nil
                  exact AllReadyIn.nil
                exact AllReadyIn.nil
              exact AllReadyIn.nil
            exact AllReadyIn.nil
          exact AllReadyIn.nil
        exact AllReadyIn.nil
      · have hC9 : ¬ C = 504 := hC
        have hLi : (504 : Int) ≤ (L : Int) := by omega
        have hLt : (decide ((504 : Int) ≤ (L : Int))) = true := by simp; omega
        gi_wp2_with fail
        refine wpIn_region_any (by kernel_rfl) ?_
        change wpAnyIn _ _ _ _ _ _ _ _ _ (World.drew _)
        refine wpAnyIn_ready (rs := [0, 1, 3]) (by kernel_rfl) (by simp) ?_
        refine AllReadyIn.cons rfl (fun K hK2 => ?_) ?_
        · skip
          go_simp
          refine hK2 _ _ ?_
          clear hK2 K
          refine wpAnyIn_ready (rs := [1, 3]) (by kernel_rfl) (by simp) ?_
          refine AllReadyIn.cons rfl (fun K hK2 => ?_) ?_
          · skip
            go_simp
            refine hK2 _ _ ?_
            clear hK2 K
            refine wpAnyIn_ready (rs := [2, 3]) (by kernel_rfl) (by simp) ?_
            refine AllReadyIn.cons rfl (fun K hK2 => ?_) ?_
            · skip
              go_simp
              refine hK2 _ _ ?_
              clear hK2 K
              refine wpAnyIn_ready (rs := [3]) (by kernel_rfl) (by simp) ?_
              refine AllReadyIn.cons rfl (fun K hK2 => ?_) ?_
              · skip
                go_simp
                refine hK2 _ _ ?_
                clear hK2 K
                refine wpAnyIn_ready (rs := [4]) (by kernel_rfl) (by simp) ?_
                refine AllReadyIn.cons rfl (fun K hK2 => ?_) ?_
                · skip
                  go_simp
                  refine hK2 _ _ ?_
                  clear hK2 K
                  refine wpAnyIn_ready (rs := [5]) (by kernel_rfl) (by simp) ?_
                  refine AllReadyIn.cons rfl (fun K hK2 => ?_) ?_
                  · skip
                    go_simp
                    refine hK2 _ _ ?_
                    clear hK2 K
                    refine wpAnyIn_ready (rs := [6]) (by kernel_rfl) (by simp) ?_
                    refine AllReadyIn.cons rfl (fun K hK2 => ?_) ?_
                    · skip
                      go_simp
                      refine hK2 _ _ ?_
                      clear hK2 K
                      refine wpAnyIn_done (by kernel_rfl) ?_ _
                      gi_wp2
                      obtain ⟨x1, x2, x3, x4⟩ := HF.out (.slice (some ⟨gr, k * 504 + 504, none⟩) (L - 504) (C - 504)) ⟨k * 504 + 504, rfl, fun _ => by omega⟩
                      exact ⟨x1.from _, x2, by rw [hsnoc.out, hlen.out]; exact x3, x4⟩
                    exact AllReadyIn.nil
                  exact AllReadyIn.nil
                exact AllReadyIn.nil
              exact AllReadyIn.nil
            refine AllReadyIn.cons rfl (fun K hK2 => ?_) ?_
            · skip
              go_simp
              refine hK2 _ _ ?_
              clear hK2 K
              refine wpAnyIn_ready (rs := [2]) (by kernel_rfl) (by simp) ?_
              refine AllReadyIn.cons rfl (fun K hK2 => ?_) ?_
              · skip
                go_simp
                refine hK2 _ _ ?_
                clear hK2 K
                refine wpAnyIn_ready (rs := [4]) (by kernel_rfl) (by simp) ?_
                refine AllReadyIn.cons rfl (fun K hK2 => ?_) ?_
                · skip
                  go_simp
                  refine hK2 _ _ ?_
                  clear hK2 K
                  refine wpAnyIn_ready (rs := [5]) (by kernel_rfl) (by simp) ?_
                  refine AllReadyIn.cons rfl (fun K hK2 => ?_) ?_
                  · skip
                    go_simp
                    refine hK2 _ _ ?_
                    clear hK2 K
                    refine wpAnyIn_ready (rs := [6]) (by kernel_rfl) (by simp) ?_
                    refine AllReadyIn.cons rfl (fun K hK2 => ?_) ?_
                    · skip
                      go_simp
                      refine hK2 _ _ ?_
                      clear hK2 K
                      refine wpAnyIn_done (by kernel_rfl) ?_ _
                      gi_wp2
                      obtain ⟨x1, x2, x3, x4⟩ := HF.out (.slice (some ⟨gr, k * 504 + 504, none⟩) (L - 504) (C - 504)) ⟨k * 504 + 504, rfl, fun _ => by omega⟩
                      exact ⟨x1.from _, x2, by rw [hsnoc.out, hlen.out]; exact x3, x4⟩
                    exact AllReadyIn.nil
                  exact AllReadyIn.nil
                exact AllReadyIn.nil
              exact AllReadyIn.nil
            exact AllReadyIn.nil
          refine AllReadyIn.cons rfl (fun K hK2 => ?_) ?_
          · skip
            go_simp
            refine hK2 _ _ ?_
            clear hK2 K
            refine wpAnyIn_ready (rs := [1]) (by kernel_rfl) (by simp) ?_
            refine AllReadyIn.cons rfl (fun K hK2 => ?_) ?_
            · skip
              go_simp
              refine hK2 _ _ ?_
              clear hK2 K
              refine wpAnyIn_ready (rs := [2]) (by kernel_rfl) (by simp) ?_
              refine AllReadyIn.cons rfl (fun K hK2 => ?_) ?_
              · skip
                go_simp
                refine hK2 _ _ ?_
                clear hK2 K
                refine wpAnyIn_ready (rs := [4]) (by kernel_rfl) (by simp) ?_
                refine AllReadyIn.cons rfl (fun K hK2 => ?_) ?_
                · skip
                  go_simp
                  refine hK2 _ _ ?_
                  clear hK2 K
                  refine wpAnyIn_ready (rs := [5]) (by kernel_rfl) (by simp) ?_
                  refine AllReadyIn.cons rfl (fun K hK2 => ?_) ?_
                  · skip
                    go_simp
                    refine hK2 _ _ ?_
                    clear hK2 K
                    refine wpAnyIn_ready (rs := [6]) (by kernel_rfl) (by simp) ?_
                    refine AllReadyIn.cons rfl (fun K hK2 => ?_) ?_
                    · skip
                      go_simp
                      refine hK2 _ _ ?_
                      clear hK2 K
                      refine wpAnyIn_done (by kernel_rfl) ?_ _
                      gi_wp2
                      obtain ⟨x1, x2, x3, x4⟩ := HF.out (.slice (some ⟨gr, k * 504 + 504, none⟩) (L - 504) (C - 504)) ⟨k * 504 + 504, rfl, fun _ => by omega⟩
                      exact ⟨x1.from _, x2, by rw [hsnoc.out, hlen.out]; exact x3, x4⟩
                    exact AllReadyIn.nil
                  exact AllReadyIn.nil
                exact AllReadyIn.nil
              exact AllReadyIn.nil
            exact AllReadyIn.nil
          exact AllReadyIn.nil
        refine AllReadyIn.cons rfl (fun K hK2 => ?_) ?_
        · skip
          go_simp
          refine hK2 _ _ ?_
          clear hK2 K
          refine wpAnyIn_ready (rs := [0, 2, 3]) (by kernel_rfl) (by simp) ?_
          refine AllReadyIn.cons rfl (fun K hK2 => ?_) ?_
          · skip
            go_simp
            refine hK2 _ _ ?_
            clear hK2 K
            refine wpAnyIn_ready (rs := [2, 3]) (by kernel_rfl) (by simp) ?_
            refine AllReadyIn.cons rfl (fun K hK2 => ?_) ?_
            · skip
              go_simp
              refine hK2 _ _ ?_
              clear hK2 K
              refine wpAnyIn_ready (rs := [3]) (by kernel_rfl) (by simp) ?_
              refine AllReadyIn.cons rfl (fun K hK2 => ?_) ?_
              · skip
                go_simp
                refine hK2 _ _ ?_
                clear hK2 K
                refine wpAnyIn_ready (rs := [4]) (by kernel_rfl) (by simp) ?_
                refine AllReadyIn.cons rfl (fun K hK2 => ?_) ?_
                · skip
                  go_simp
                  refine hK2 _ _ ?_
                  clear hK2 K
                  refine wpAnyIn_ready (rs := [5]) (by kernel_rfl) (by simp) ?_
                  refine AllReadyIn.cons rfl (fun K hK2 => ?_) ?_
                  · skip
                    go_simp
                    refine hK2 _ _ ?_
                    clear hK2 K
                    refine wpAnyIn_ready (rs := [6]) (by kernel_rfl) (by simp) ?_
                    refine AllReadyIn.cons rfl (fun K hK2 => ?_) ?_
                    · skip
                      go_simp
                      refine hK2 _ _ ?_
                      clear hK2 K
                      refine wpAnyIn_done (by kernel_rfl) ?_ _
                      gi_wp2
                      obtain ⟨x1, x2, x3, x4⟩ := HF.out (.slice (some ⟨gr, k * 504 + 504, none⟩) (L - 504) (C - 504)) ⟨k * 504 + 504, rfl, fun _ => by omega⟩
                      exact ⟨x1.from _, x2, by rw [hsnoc.out, hlen.out]; exact x3, x4⟩
                    exact AllReadyIn.nil
                  exact AllReadyIn.nil
                exact AllReadyIn.nil
              exact AllReadyIn.nil
            refine AllReadyIn.cons rfl (fun K hK2 => ?_) ?_
            · skip
              go_simp
              refine hK2 _ _ ?_
              clear hK2 K
              refine wpAnyIn_ready (rs := [2]) (by kernel_rfl) (by simp) ?_
              refine AllReadyIn.cons rfl (fun K hK2 => ?_) ?_
              · skip
                go_simp
                refine hK2 _ _ ?_
                clear hK2 K
                refine wpAnyIn_ready (rs := [4]) (by kernel_rfl) (by simp) ?_
                refine AllReadyIn.cons rfl (fun K hK2 => ?_) ?_
                · skip
                  go_simp
                  refine hK2 _ _ ?_
                  clear hK2 K
                  refine wpAnyIn_ready (rs := [5]) (by kernel_rfl) (by simp) ?_
                  refine AllReadyIn.cons rfl (fun K hK2 => ?_) ?_
                  · skip
                    go_simp
                    refine hK2 _ _ ?_
                    clear hK2 K
                    refine wpAnyIn_ready (rs := [6]) (by kernel_rfl) (by simp) ?_
                    refine AllReadyIn.cons rfl (fun K hK2 => ?_) ?_
                    · skip
                      go_simp
                      refine hK2 _ _ ?_
                      clear hK2 K
                      refine wpAnyIn_done (by kernel_rfl) ?_ _
                      gi_wp2
                      obtain ⟨x1, x2, x3, x4⟩ := HF.out (.slice (some ⟨gr, k * 504 + 504, none⟩) (L - 504) (C - 504)) ⟨k * 504 + 504, rfl, fun _ => by omega⟩
                      exact ⟨x1.from _, x2, by rw [hsnoc.out, hlen.out]; exact x3, x4⟩
                    exact AllReadyIn.nil
                  exact AllReadyIn.nil
                exact AllReadyIn.nil
              exact AllReadyIn.nil
            exact AllReadyIn.nil
          refine AllReadyIn.cons rfl (fun K hK2 => ?_) ?_
          · skip
            go_simp
            refine hK2 _ _ ?_
            clear hK2 K
            refine wpAnyIn_ready (rs := [0, 3]) (by kernel_rfl) (by simp) ?_
            refine AllReadyIn.cons rfl (fun K hK2 => ?_) ?_
            · skip
              go_simp
              refine hK2 _ _ ?_
              clear hK2 K
              refine wpAnyIn_ready (rs := [3]) (by kernel_rfl) (by simp) ?_
              refine AllReadyIn.cons rfl (fun K hK2 => ?_) ?_
              · skip
                go_simp
                refine hK2 _ _ ?_
                clear hK2 K
                refine wpAnyIn_ready (rs := [4]) (by kernel_rfl) (by simp) ?_
                refine AllReadyIn.cons rfl (fun K hK2 => ?_) ?_
                · skip
                  go_simp
                  refine hK2 _ _ ?_
                  clear hK2 K
                  refine wpAnyIn_ready (rs := [5]) (by kernel_rfl) (by simp) ?_
                  refine AllReadyIn.cons rfl (fun K hK2 => ?_) ?_
                  · skip
                    go_simp
                    refine hK2 _ _ ?_
                    clear hK2 K
                    refine wpAnyIn_ready (rs := [6]) (by kernel_rfl) (by simp) ?_
                    refine AllReadyIn.cons rfl (fun K hK2 => ?_) ?_
                    · skip
                      go_simp
                      refine hK2 _ _ ?_
                      clear hK2 K
                      refine wpAnyIn_done (by kernel_rfl) ?_ _
                      gi_wp2
                      obtain ⟨x1, x2, x3, x4⟩ := HF.out (.slice (some ⟨gr, k * 504 + 504, none⟩) (L - 504) (C - 504)) ⟨k * 504 + 504, rfl, fun _ => by omega⟩
                      exact ⟨x1.from _, x2, by rw [hsnoc.out, hlen.out]; exact x3, x4⟩
                    exact AllReadyIn.nil
                  exact AllReadyIn.nil
                exact AllReadyIn.nil
              exact AllReadyIn.nil
            refine AllReadyIn.cons rfl (fun K hK2 => ?_) ?_
            · skip
              go_simp
              refine hK2 _ _ ?_
              clear hK2 K
              refine wpAnyIn_ready (rs := [0, 4]) (by kernel_rfl) (by simp) ?_
              refine AllReadyIn.cons rfl (fun K hK2 => ?_) ?_
              · skip
                go_simp
                refine hK2 _ _ ?_
                clear hK2 K
                refine wpAnyIn_ready (rs := [4]) (by kernel_rfl) (by simp) ?_
                refine AllReadyIn.cons rfl (fun K hK2 => ?_) ?_
                · skip
                  go_simp
                  refine hK2 _ _ ?_
                  clear hK2 K
                  refine wpAnyIn_ready (rs := [5]) (by kernel_rfl) (by simp) ?_
                  refine AllReadyIn.cons rfl (fun K hK2 => ?_) ?_
                  · skip
                    go_simp
                    refine hK2 _ _ ?_
                    clear hK2 K
                    refine wpAnyIn_ready (rs := [6]) (by kernel_rfl) (by simp) ?_
                    refine AllReadyIn.cons rfl (fun K hK2 => ?_) ?_
                    · skip
                      go_simp
                      refine hK2 _ _ ?_
                      clear hK2 K
                      refine wpAnyIn_done (by kernel_rfl) ?_ _
                      gi_wp2
                      obtain ⟨x1, x2, x3, x4⟩ := HF.out (.slice (some ⟨gr, k * 504 + 504, none⟩) (L - 504) (C - 504)) ⟨k * 504 + 504, rfl, fun _ => by omega⟩
                      exact ⟨x1.from _, x2, by rw [hsnoc.out, hlen.out]; exact x3, x4⟩
                    exact AllReadyIn.nil
                  exact AllReadyIn.nil
                exact AllReadyIn.nil
              refine AllReadyIn.cons rfl (fun K hK2 => ?_) ?_
              · skip
                go_simp
                refine hK2 _ _ ?_
                clear hK2 K
                refine wpAnyIn_ready (rs := [0]) (by kernel_rfl) (by simp) ?_
                refine AllReadyIn.cons rfl (fun K hK2 => ?_) ?_
                · skip
                  go_simp
                  refine hK2 _ _ ?_
                  clear hK2 K
                  refine wpAnyIn_ready (rs := [5]) (by kernel_rfl) (by simp) ?_
                  refine AllReadyIn.cons rfl (fun K hK2 => ?_) ?_
                  · skip
                    go_simp
                    refine hK2 _ _ ?_
                    clear hK2 K
                    refine wpAnyIn_ready (rs := [6]) (by kernel_rfl) (by simp) ?_
                    refine AllReadyIn.cons rfl (fun K hK2 => ?_) ?_
                    · skip
                      go_simp
                      refine hK2 _ _ ?_
                      clear hK2 K
                      refine wpAnyIn_done (by kernel_rfl) ?_ _
                      gi_wp2
                      obtain ⟨x1, x2, x3, x4⟩ := HF.out (.slice (some ⟨gr, k * 504 + 504, none⟩) (L - 504) (C - 504)) ⟨k * 504 + 504, rfl, fun _ => by omega⟩
                      exact ⟨x1.from _, x2, by rw [hsnoc.out, hlen.out]; exact x3, x4⟩
                    exact AllReadyIn.nil
                  exact AllReadyIn.nil
                exact AllReadyIn.nil
              exact AllReadyIn.nil
            exact AllReadyIn.nil
          refine AllReadyIn.cons rfl (fun K hK2 => ?_) ?_
          · skip
            go_simp
            refine hK2 _ _ ?_
            clear hK2 K
            refine wpAnyIn_ready (rs := [0, 2]) (by kernel_rfl) (by simp) ?_
            refine AllReadyIn.cons rfl (fun K hK2 => ?_) ?_
            · skip
              go_simp
              refine hK2 _ _ ?_
              clear hK2 K
              refine wpAnyIn_ready (rs := [2]) (by kernel_rfl) (by simp) ?_
              refine AllReadyIn.cons rfl (fun K hK2 => ?_) ?_
              · skip
                go_simp
                refine hK2 _ _ ?_
                clear hK2 K
                refine wpAnyIn_ready (rs := [4]) (by kernel_rfl) (by simp) ?_
                refine AllReadyIn.cons rfl (fun K hK2 => ?_) ?_
                · skip
                  go_simp
                  refine hK2 _ _ ?_
                  clear hK2 K
                  refine wpAnyIn_ready (rs := [5]) (by kernel_rfl) (by simp) ?_
                  refine AllReadyIn.cons rfl (fun K hK2 => ?_) ?_
                  · skip
                    go_simp
                    refine hK2 _ _ ?_
                    clear hK2 K
                    refine wpAnyIn_ready (rs := [6]) (by kernel_rfl) (by simp) ?_
                    refine AllReadyIn.cons rfl (fun K hK2 => ?_) ?_
                    · skip
                      go_simp
                      refine hK2 _ _ ?_
                      clear hK2 K
                      refine wpAnyIn_done (by kernel_rfl) ?_ _
                      gi_wp2
                      obtain ⟨x1, x2, x3, x4⟩ := HF.out (.slice (some ⟨gr, k * 504 + 504, none⟩) (L - 504) (C - 504)) ⟨k * 504 + 504, rfl, fun _ => by omega⟩
                      exact ⟨x1.from _, x2, by rw [hsnoc.out, hlen.out]; exact x3, x4⟩
                    exact AllReadyIn.nil
                  exact AllReadyIn.nil
                exact AllReadyIn.nil
              exact AllReadyIn.nil
            refine AllReadyIn.cons rfl (fun K hK2 => ?_) ?_
            · skip
              go_simp
              refine hK2 _ _ ?_
              clear hK2 K
              refine wpAnyIn_ready (rs := [0, 4]) (by kernel_rfl) (by simp) ?_
              refine AllReadyIn.cons rfl (fun K hK2 => ?_) ?_
              · skip
                go_simp
                refine hK2 _ _ ?_
                clear hK2 K
                refine wpAnyIn_ready (rs := [4]) (by kernel_rfl) (by simp) ?_
                refine AllReadyIn.cons rfl (fun K hK2 => ?_) ?_
                · skip
                  go_simp
                  refine hK2 _ _ ?_
                  clear hK2 K
                  refine wpAnyIn_ready (rs := [5]) (by kernel_rfl) (by simp) ?_
                  refine AllReadyIn.cons rfl (fun K hK2 => ?_) ?_
                  · skip
                    go_simp
                    refine hK2 _ _ ?_
                    clear hK2 K
                    refine wpAnyIn_ready (rs := [6]) (by kernel_rfl) (by simp) ?_
                    refine AllReadyIn.cons rfl (fun K hK2 => ?_) ?_
                    · skip
                      go_simp
                      refine hK2 _ _ ?_
                      clear hK2 K
                      refine wpAnyIn_done (by kernel_rfl) ?_ _
                      gi_wp2
                      obtain ⟨x1, x2, x3, x4⟩ := HF.out (.slice (some ⟨gr, k * 504 + 504, none⟩) (L - 504) (C - 504)) ⟨k * 504 + 504, rfl, fun _ => by omega⟩
                      exact ⟨x1.from _, x2, by rw [hsnoc.out, hlen.out]; exact x3, x4⟩
                    exact AllReadyIn.nil
                  exact AllReadyIn.nil
                exact AllReadyIn.nil
              refine AllReadyIn.cons rfl (fun K hK2 => ?_) ?_
              · skip
                go_simp
                refine hK2 _ _ ?_
                clear hK2 K
                refine wpAnyIn_ready (rs := [0]) (by kernel_rfl) (by simp) ?_
                refine AllReadyIn.cons rfl (fun K hK2 => ?_) ?_
                · skip
                  go_simp
                  refine hK2 _ _ ?_
                  clear hK2 K
                  refine wpAnyIn_ready (rs := [5]) (by kernel_rfl) (by simp) ?_
                  refine AllReadyIn.cons rfl (fun K hK2 => ?_) ?_
                  · skip
                    go_simp
                    refine hK2 _ _ ?_
                    clear hK2 K
                    refine wpAnyIn_ready (rs := [6]) (by kernel_rfl) (by simp) ?_
                    refine AllReadyIn.cons rfl (fun K hK2 => ?_) ?_
                    · skip
                      go_simp
                      refine hK2 _ _ ?_
                      clear hK2 K
                      refine wpAnyIn_done (by kernel_rfl) ?_ _
                      gi_wp2
                      obtain ⟨x1, x2, x3, x4⟩ := HF.out (.slice (some ⟨gr, k * 504 + 504, none⟩) (L - 504) (C - 504)) ⟨k * 504 + 504, rfl, fun _ => by omega⟩
                      exact ⟨x1.from _, x2, by rw [hsnoc.out, hlen.out]; exact x3, x4⟩
                    exact AllReadyIn.nil
                  exact AllReadyIn.nil
                exact AllReadyIn.nil
              exact AllReadyIn.nil
            exact AllReadyIn.nil
          exact AllReadyIn.nil
        refine AllReadyIn.cons rfl (fun K hK2 => ?_) ?_
        · skip
          go_simp
          refine hK2 _ _ ?_
          clear hK2 K
          refine wpAnyIn_ready (rs := [0, 1]) (by kernel_rfl) (by simp) ?_
          refine AllReadyIn.cons rfl (fun K hK2 => ?_) ?_
          · skip
            go_simp
            refine hK2 _ _ ?_
            clear hK2 K
            refine wpAnyIn_ready (rs := [1]) (by kernel_rfl) (by simp) ?_
            refine AllReadyIn.cons rfl (fun K hK2 => ?_) ?_
            · skip
              go_simp
              refine hK2 _ _ ?_
              clear hK2 K
              refine wpAnyIn_ready (rs := [2]) (by kernel_rfl) (by simp) ?_
              refine AllReadyIn.cons rfl (fun K hK2 => ?_) ?_
              · skip
                go_simp
                refine hK2 _ _ ?_
                clear hK2 K
                refine wpAnyIn_ready (rs := [4]) (by kernel_rfl) (by simp) ?_
                refine AllReadyIn.cons rfl (fun K hK2 => ?_) ?_
                · skip
                  go_simp
                  refine hK2 _ _ ?_
                  clear hK2 K
                  refine wpAnyIn_ready (rs := [5]) (by kernel_rfl) (by simp) ?_
                  refine AllReadyIn.cons rfl (fun K hK2 => ?_) ?_
                  · skip
                    go_simp
                    refine hK2 _ _ ?_
                    clear hK2 K
                    refine wpAnyIn_ready (rs := [6]) (by kernel_rfl) (by simp) ?_
                    refine AllReadyIn.cons rfl (fun K hK2 => ?_) ?_
                    · skip
                      go_simp
                      refine hK2 _ _ ?_
                      clear hK2 K
                      refine wpAnyIn_done (by kernel_rfl) ?_ _
                      gi_wp2
                      obtain ⟨x1, x2, x3, x4⟩ := HF.out (.slice (some ⟨gr, k * 504 + 504, none⟩) (L - 504) (C - 504)) ⟨k * 504 + 504, rfl, fun _ => by omega⟩
                      exact ⟨x1.from _, x2, by rw [hsnoc.out, hlen.out]; exact x3, x4⟩
                    exact AllReadyIn.nil
                  exact AllReadyIn.nil
                exact AllReadyIn.nil
              exact AllReadyIn.nil
            exact AllReadyIn.nil
          refine AllReadyIn.cons rfl (fun K hK2 => ?_) ?_
          · skip
            go_simp
            refine hK2 _ _ ?_
            clear hK2 K
            refine wpAnyIn_ready (rs := [0, 2]) (by kernel_rfl) (by simp) ?_
            refine AllReadyIn.cons rfl (fun K hK2 => ?_) ?_
            · skip
              go_simp
              refine hK2 _ _ ?_
              clear hK2 K
              refine wpAnyIn_ready (rs := [2]) (by kernel_rfl) (by simp) ?_
              refine AllReadyIn.cons rfl (fun K hK2 => ?_) ?_
              · skip
                go_simp
                refine hK2 _ _ ?_
                clear hK2 K
                refine wpAnyIn_ready (rs := [4]) (by kernel_rfl) (by simp) ?_
                refine AllReadyIn.cons rfl (fun K hK2 => ?_) ?_
                · skip
                  go_simp
                  refine hK2 _ _ ?_
                  clear hK2 K
                  refine wpAnyIn_ready (rs := [5]) (by kernel_rfl) (by simp) ?_
                  refine AllReadyIn.cons rfl (fun K hK2 => ?_) ?_
                  · skip
                    go_simp
                    refine hK2 _ _ ?_
                    clear hK2 K
                    refine wpAnyIn_ready (rs := [6]) (by kernel_rfl) (by simp) ?_
                    refine AllReadyIn.cons rfl (fun K hK2 => ?_) ?_
                    · skip
                      go_simp
                      refine hK2 _ _ ?_
                      clear hK2 K
                      refine wpAnyIn_done (by kernel_rfl) ?_ _
                      gi_wp2
                      obtain ⟨x1, x2, x3, x4⟩ := HF.out (.slice (some ⟨gr, k * 504 + 504, none⟩) (L - 504) (C - 504)) ⟨k * 504 + 504, rfl, fun _ => by omega⟩
                      exact ⟨x1.from _, x2, by rw [hsnoc.out, hlen.out]; exact x3, x4⟩
                    exact AllReadyIn.nil
                  exact AllReadyIn.nil
                exact AllReadyIn.nil
              exact AllReadyIn.nil
            refine AllReadyIn.cons rfl (fun K hK2 => ?_) ?_
            · skip
              go_simp
              refine hK2 _ _ ?_
              clear hK2 K
              refine wpAnyIn_ready (rs := [0, 4]) (by kernel_rfl) (by simp) ?_
              refine AllReadyIn.cons rfl (fun K hK2 => ?_) ?_
              · skip
                go_simp
                refine hK2 _ _ ?_
                clear hK2 K
                refine wpAnyIn_ready (rs := [4]) (by kernel_rfl) (by simp) ?_
                refine AllReadyIn.cons rfl (fun K hK2 => ?_) ?_
                · skip
                  go_simp
                  refine hK2 _ _ ?_
                  clear hK2 K
                  refine wpAnyIn_ready (rs := [5]) (by kernel_rfl) (by simp) ?_
                  refine AllReadyIn.cons rfl (fun K hK2 => ?_) ?_
                  · skip
                    go_simp
                    refine hK2 _ _ ?_
                    clear hK2 K
                    refine wpAnyIn_ready (rs := [6]) (by kernel_rfl) (by simp) ?_
                    refine AllReadyIn.cons rfl (fun K hK2 => ?_) ?_
                    · skip
                      go_simp
                      refine hK2 _ _ ?_
                      clear hK2 K
                      refine wpAnyIn_done (by kernel_rfl) ?_ _
                      gi_wp2
                      obtain ⟨x1, x2, x3, x4⟩ := HF.out (.slice (some ⟨gr, k * 504 + 504, none⟩) (L - 504) (C - 504)) ⟨k * 504 + 504, rfl, fun _ => by omega⟩
                      exact ⟨x1.from _, x2, by rw [hsnoc.out, hlen.out]; exact x3, x4⟩
                    exact AllReadyIn.nil
                  exact AllReadyIn.nil
                exact AllReadyIn.nil
              refine AllReadyIn.cons rfl (fun K hK2 => ?_) ?_
              · skip
                go_simp
                refine hK2 _ _ ?_
                clear hK2 K
                refine wpAnyIn_ready (rs := [0]) (by kernel_rfl) (by simp) ?_
                refine AllReadyIn.cons rfl (fun K hK2 => ?_) ?_
                · skip
                  go_simp
                  refine hK2 _ _ ?_
                  clear hK2 K
                  refine wpAnyIn_ready (rs := [5]) (by kernel_rfl) (by simp) ?_
                  refine AllReadyIn.cons rfl (fun K hK2 => ?_) ?_
                  · skip
                    go_simp
                    refine hK2 _ _ ?_
                    clear hK2 K
                    refine wpAnyIn_ready (rs := [6]) (by kernel_rfl) (by simp) ?_
                    refine AllReadyIn.cons rfl (fun K hK2 => ?_) ?_
                    · skip
                      go_simp
                      refine hK2 _ _ ?_
                      clear hK2 K
                      refine wpAnyIn_done (by kernel_rfl) ?_ _
                      gi_wp2
                      obtain ⟨x1, x2, x3, x4⟩ := HF.out (.slice (some ⟨gr, k * 504 + 504, none⟩) (L - 504) (C - 504)) ⟨k * 504 + 504, rfl, fun _ => by omega⟩
                      exact ⟨x1.from _, x2, by rw [hsnoc.out, hlen.out]; exact x3, x4⟩
                    exact AllReadyIn.nil
                  exact AllReadyIn.nil
                exact AllReadyIn.nil
              exact AllReadyIn.nil
            exact AllReadyIn.nil
          exact AllReadyIn.nil
        exact AllReadyIn.nil
    case done =>
      rintro D' ys W hD rfl ⟨hI, hB⟩ hK
      gi_wp2
      refine ⟨by simp, .inl ⟨_, _, rfl, run_takeDeferred hK, ?_⟩⟩
      exact ⟨_, by simp [results, Tryz.f78, go_sem], _, rfl, Nat.le_succ _, by rw [← HZ.out, ← HM.out, ← HBB.out]; exact hI.1.kept (grownBy_putObj' _ D' (.deferred none)) (fun r e => by cases e; exact ⟨_, hK, rfl⟩), hB.trans (belowK_b (w := w) (Nat.le_refl _) _ D' _ _ (by omega) hK rfl rfl)⟩
    case stop =>
      rintro D' c pre W hD _ ⟨hf, _⟩ hK
      exact hf.elim
end Go.Proofs.YtkhejjddmbegaaaGreat.Rc
