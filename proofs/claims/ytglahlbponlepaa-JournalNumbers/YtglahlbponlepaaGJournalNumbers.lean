/-
  JRsv, JErrs, JK, JNoneL, JNums: put together.
-/
import Derived.Test.YtglahlbponlepaaG8
/-
  Reserve and Cancel.
-/
namespace Go.Proofs.Ytglahlbponlepaa.J
open Go.RowKit
open Go.Proofs.Ytglahlbponlepaa.Dk (Box)

/-- the world behind Cancel's box -/
def re1 (w : World) (n : Int) : World := w.alloc (.cells #[.int .i64 n] 3)
theorem re1_b (w : World) (n : Int) : Box (re1 w n) w.heap.size #[.int .i64 n] 3 := Dk.Box.new w _ 3
theorem re1_below (w : World) (n : Int) : Below w.heap.size w (re1 w n) := (Below.refl w.heap.size w).alloc (Nat.le_refl _) _

/-- a journal's ring is turned, behind new memory -/
theorem ring_end {w w5 : World} {g dg : Nat} {vs : Value} {J : JS} {xs : List Int} {D : Dk.DS} {F Fd : Nat → Prop} (hd : Dk.IsDisk w dg D Fd) (hFg : ¬ Fd g) (hFv : ∀ k, vs.ownBlock = some k → ¬ Fd k ∧ F k) (hFd : ∀ i, Fd i → F i) (hFF : F g) (hFlt : ∀ i, F i → i < w.heap.size)
    (h : Box w g (jC g dg vs J) 47) (hr : w.ownsRow 0 3 1 vs xs.length (ics xs)) (b5 : Below w.heap.size w w5) (o : Obj) (S T U H : Int) :
    JTo w F g dg { J with S := S, T := T, U := U, H := H } xs D (((((w5.alloc o).setCell ⟨g, 6, none⟩ (.int .i64 S)).setCell ⟨g, 7, none⟩ (.int .i64 T)).setCell ⟨g, 8, none⟩ (.int .i64 U)).setCell ⟨g, 9, none⟩ (.int .i64 H)) := by
  have B := b5.alloc b5.size o
  have hb := box_ring (h.below B) S T U H
  have hlt := h.lt
  have hset : ∀ k, k ≠ g → (((((w5.alloc o).setCell ⟨g, 6, none⟩ (.int .i64 S)).setCell ⟨g, 7, none⟩ (.int .i64 T)).setCell ⟨g, 8, none⟩ (.int .i64 U)).setCell ⟨g, 9, none⟩ (.int .i64 H)).heap[k]? = (w5.alloc o).heap[k]? := fun k hk => by
    rw [heap_setCell_other _ ⟨g, 9, none⟩ k _ (by simpa using hk), heap_setCell_other _ ⟨g, 8, none⟩ k _ (by simpa using hk), heap_setCell_other _ ⟨g, 7, none⟩ k _ (by simpa using hk), heap_setCell_other _ ⟨g, 6, none⟩ k _ (by simpa using hk)]
  have hne : ∀ k, vs.ownBlock = some k → k ≠ g := fun k hk e => by
    obtain ⟨_, cur, hx⟩ := Rc.owns_block hr k hk
    subst e
    exact h.ne hx (by decide) rfl
  have row := owns_kept hr (fun k hk => (hset k (hne k hk)).trans (B.block k (hFlt k (hFv k hk).2)))
  exact JTo.same hd hFg hFv hFd hFF hFlt hb row rfl (upd_set (upd_set (upd_set (upd_set (upd_below B) g 6 (.inl (.inl rfl)) _) g 7 (.inl (.inl rfl)) _) g 8 (.inl (.inl rfl)) _) g 9 (.inl (.inl rfl)) _)

theorem reserve_arg {w : World} {g dg : Nat} {vs : Value} {J : JS} (h : Box w g (jC g dg vs J) 47) (hb : J.broken = false) (m n e : Int) (hm : Rc.blocksN m = n) (he : e ≠ 0) (hv : (if n = 0 then 2 else if J.S < n then 232 else 0) = e) :
    Calls Try.prog 13 #[.pointer (some ⟨g, 0, none⟩), .int .i64 m] w fun r w' => r = .returned (.int .i64 e) ∧ Below w.heap.size w w' := by
  have b := re2_below w g n
  have h' : Box (re2 w g n) g (jC g dg vs J) 47 := h.below b
  have hbl := fun u => Rc.blocks_at m u
  rw [hm] at hbl
  have ca := ahead_in41 h' hb (fun x w' => x = e ∧ re2 w g n = w') #[.pointer (some ⟨w.heap.size + 1, 0, none⟩), .pointer (some ⟨w.heap.size, 0, none⟩)] ((reserve1_at h' n (re2_b w g n) (re2_a w g n)).mono (by
    rintro r w' ⟨rfl, rfl⟩
    exact ⟨e, by rw [hv], rfl, rfl⟩))
  go_enter Try.func13, Try.ntmps13
  go_wp2_with fail
  refine (hbl _).mono ?_
  rintro r w1 ⟨rfl, rfl⟩
  go_wp2_with fail
  refine Calls.mono ca ?_
  rintro r w1 ⟨x, rfl, rfl, rfl⟩
  have he' := he
  go_wp2_with fail
  go_ret
  exact ⟨rfl, b⟩

theorem cancel_arg {w : World} {g dg : Nat} {vs : Value} {J : JS} (h : Box w g (jC g dg vs J) 47) (hb : J.broken = false) (m n e : Int) (hm : Rc.blocksN m = n) (he : e ≠ 0) (hv : (if n = 0 then (2 : Int) else 0) = e) :
    Calls Try.prog 14 #[.pointer (some ⟨g, 0, none⟩), .int .i64 m] w fun r w' => r = .returned (.int .i64 e) ∧ Below w.heap.size w w' := by
  have b := re1_below w n
  have h' : Box (re1 w n) g (jC g dg vs J) 47 := h.below b
  have hbl := fun u => Rc.blocks_at m u
  rw [hm] at hbl
  have ca := ahead_in43 h' hb (fun x w' => x = e ∧ re1 w n = w') #[.pointer (some ⟨w.heap.size, 0, none⟩)] ((cancel1_at n (re1_b w n)).mono (by
    rintro r w' ⟨rfl, rfl⟩
    exact ⟨e, by rw [hv], rfl, rfl⟩))
  go_enter Try.func14, Try.ntmps14
  go_wp2_with fail
  refine (hbl _).mono ?_
  rintro r w1 ⟨rfl, rfl⟩
  go_wp2_with fail
  refine Calls.mono ca ?_
  rintro r w1 ⟨x, rfl, rfl, rfl⟩
  have he' := he
  go_wp2_with fail
  go_ret
  exact ⟨rfl, b⟩

theorem reserve_broken {w : World} {g dg : Nat} {vs : Value} {J : JS} (h : Box w g (jC g dg vs J) 47) (hb : J.broken = true) (m : Int) :
    Calls Try.prog 13 #[.pointer (some ⟨g, 0, none⟩), .int .i64 m] w fun r w' => r = .returned (.int .i64 4) ∧ Below w.heap.size w w' := by
  obtain ⟨n, hm⟩ : ∃ n, Rc.blocksN m = n := ⟨_, rfl⟩
  have hbl := fun u => Rc.blocks_at m u
  rw [hm] at hbl
  have b := re2_below w g n
  have h' : Box (re2 w g n) g (jC g dg vs J) 47 := h.below b
  have ca := ahead_broken h' hb (.func (.func 41) #[] #[.pointer (some ⟨w.heap.size + 1, 0, none⟩), .pointer (some ⟨w.heap.size, 0, none⟩)])
  go_enter Try.func13, Try.ntmps13
  go_wp2_with fail
  refine (hbl _).mono ?_
  rintro r w1 ⟨rfl, rfl⟩
  go_wp2_with fail
  refine Calls.mono ca ?_
  rintro r w1 ⟨rfl, rfl⟩
  go_wp2_with fail
  go_ret
  exact ⟨rfl, b⟩

theorem cancel_broken {w : World} {g dg : Nat} {vs : Value} {J : JS} (h : Box w g (jC g dg vs J) 47) (hb : J.broken = true) (m : Int) :
    Calls Try.prog 14 #[.pointer (some ⟨g, 0, none⟩), .int .i64 m] w fun r w' => r = .returned (.int .i64 4) ∧ Below w.heap.size w w' := by
  obtain ⟨n, hm⟩ : ∃ n, Rc.blocksN m = n := ⟨_, rfl⟩
  have hbl := fun u => Rc.blocks_at m u
  rw [hm] at hbl
  have b := re1_below w n
  have h' : Box (re1 w n) g (jC g dg vs J) 47 := h.below b
  have ca := ahead_broken h' hb (.func (.func 43) #[] #[.pointer (some ⟨w.heap.size, 0, none⟩)])
  go_enter Try.func14, Try.ntmps14
  go_wp2_with fail
  refine (hbl _).mono ?_
  rintro r w1 ⟨rfl, rfl⟩
  go_wp2_with fail
  refine Calls.mono ca ?_
  rintro r w1 ⟨rfl, rfl⟩
  go_wp2_with fail
  go_ret
  exact ⟨rfl, b⟩

set_option maxRecDepth 100000 in
set_option maxHeartbeats 4000000 in
theorem reserve_full {w : World} {g dg : Nat} {vs : Value} {J : JS} (h : Box w g (jC g dg vs J) 47) (hb : J.broken = false) (m n : Int) (hm : Rc.blocksN m = n) (E : Int) (hE : E ≠ 0) (hn0 : ¬ n = 0) (hnS : ¬ J.S < n) (hr : ¬(Rg.R J.S J.T J.U J.H ∧ 0 ≤ n) ∧ E = 2 ∨ (Rg.R J.S J.T J.U J.H ∧ 0 ≤ n ∧ ¬(n ≤ Rg.fr J.S J.T J.U J.H)) ∧ E = 5) :
    Calls Try.prog 13 #[.pointer (some ⟨g, 0, none⟩), .int .i64 m] w fun r w' => r = .returned (.int .i64 E) ∧ Below w.heap.size w w' := by
  have b := re2_below w g n
  have h' : Box (re2 w g n) g (jC g dg vs J) 47 := h.below b
  have hbl := fun u => Rc.blocks_at m u
  rw [hm] at hbl
  have ca := ahead_in41 h' hb (fun x w' => x = 0 ∧ re2 w g n = w') #[.pointer (some ⟨w.heap.size + 1, 0, none⟩), .pointer (some ⟨w.heap.size, 0, none⟩)] ((reserve1_at h' n (re2_b w g n) (re2_a w g n)).mono (by
    rintro r w' ⟨rfl, rfl⟩
    rw [if_neg hn0, if_neg hnS]
    exact ⟨0, rfl, rfl, rfl⟩))
  have cr := fun u => Rg.reserve_no J.S J.T J.U J.H n E u hr
  unfold Rg.ri at cr
  have HA : Hid (Box (re2 w g n) w.heap.size #[.pointer (some ⟨g, 0, none⟩)] 23) := re2_a w g n
  have HC : Hid (Box (re2 w g n) (w.heap.size + 1) #[.int .i64 n] 3) := re2_b w g n
  have HH : Hid (Box (re2 w g n) g (jC g dg vs J) 47) := h'
  have HB : Hid (Below w.heap.size w (re2 w g n)) := b
  clear h h' b
  go_enter Try.func13, Try.ntmps13
  go_wp2_with fail
  refine (hbl _).mono ?_
  rintro r w1 ⟨rfl, rfl⟩
  go_wp2_with fail
  refine Calls.mono ca ?_
  rintro r w1 ⟨x, rfl, rfl, rfl⟩
  clear ca hbl
  go_upto_region 5 with fail
  generalize hw2 : re2 w g n = w2 at HH HB HA HC ⊢
  have HS : Hid (∀ u : World, Below w2.heap.size w2 u → u.cell? ⟨w.heap.size, 0, none⟩ = some (.pointer (some ⟨g, 0, none⟩)) ∧ u.cell? ⟨w.heap.size + 1, 0, none⟩ = some (.int .i64 n)) := fun u bu => by
    have y1 := (HA.out.below bu).cell 0
    have y2 := (HC.out.below bu).cell 0
    simp at y1 y2
    exact ⟨y1, y2⟩
  obtain ⟨_, _, _, _, _, _, g6, g7, g8, g9, _, _⟩ := box_cells HH.out
  refine wp_region_noPanic ?_
  refine wp_region_held_drew (S := fun u => u.cell? ⟨w.heap.size, 0, none⟩ = some (.pointer (some ⟨g, 0, none⟩)) ∧ u.cell? ⟨w.heap.size + 1, 0, none⟩ = some (.int .i64 n)) (by kernel_rfl) (HS.out _ (Below.refl _ w2).drew) (fun hHeld => ?_)
  refine wpAnyH_take (i := 0) (v := ?_) rfl (by kernel_rfl) (by kernel_rfl) (by kernel_rfl) (fun _ _ _ h => h) (Or.inl ⟨by rfl, ?_⟩) (by assumption) ?_
  rotate_left
  · intro w hSw
    go_simp
    with_reducible rfl
  simp only [Act.put, List.setIfInBounds_toArray, List.set_cons_zero, List.set_cons_succ, List.getElem_toArray, List.getElem_cons_zero]
  refine wpAnyH_take (i := 1) (v := ?_) rfl (by kernel_rfl) (by kernel_rfl) (by kernel_rfl) (fun _ _ _ h => h) (Or.inl ⟨by rfl, ?_⟩) (by assumption) ?_
  rotate_left
  · intro w hSw
    go_simp
    with_reducible rfl
  simp only [Act.put, List.setIfInBounds_toArray, List.set_cons_zero, List.set_cons_succ, List.getElem_toArray, List.getElem_cons_zero, List.getElem_cons_succ]
  refine wpAnyH_take (i := 2) (v := ?_) rfl (by kernel_rfl) (by kernel_rfl) (by kernel_rfl) (fun _ _ _ h => h) (Or.inl ⟨by rfl, ?_⟩) (by assumption) ?_
  rotate_left
  · intro w hSw
    go_simp
    with_reducible rfl
  simp only [Act.put, List.setIfInBounds_toArray, List.set_cons_zero, List.set_cons_succ, List.getElem_toArray, List.getElem_cons_zero, List.getElem_cons_succ]
  refine wpAnyH_take (i := 3) (v := ?_) rfl (by kernel_rfl) (by kernel_rfl) (by kernel_rfl) (fun _ _ _ h => h) (Or.inl ⟨by rfl, ?_⟩) (by assumption) ?_
  rotate_left
  · intro w hSw
    go_simp
    with_reducible rfl
  simp only [Act.put, List.setIfInBounds_toArray, List.set_cons_zero, List.set_cons_succ, List.getElem_toArray, List.getElem_cons_zero, List.getElem_cons_succ]
  refine wpAnyH_take (i := 5) (v := ?_) rfl (by kernel_rfl) (by kernel_rfl) (by kernel_rfl) (fun _ _ _ h => h) (Or.inl ⟨by rfl, ?_⟩) (by assumption) ?_
  rotate_left
  · intro w hSw
    go_simp
    with_reducible rfl
  simp only [Act.put, List.setIfInBounds_toArray, List.set_cons_zero, List.set_cons_succ, List.getElem_toArray, List.getElem_cons_zero, List.getElem_cons_succ]
  refine wpAnyH_ready (rs := [4]) (by kernel_rfl) (by simp) ?_
  refine AllReadyH.cons rfl (fun K hK => ?_) AllReadyH.nil
  go_simp
  refine hK.out _ _ (HS.out _ (Below.refl _ w2).drew) (fun hHeld => ?_)
  clear hK K
  refine wpAnyH_ready (rs := [6]) (by kernel_rfl) (by simp) ?_
  refine AllReadyH.cons rfl (fun K hK => ?_) AllReadyH.nil
  go_simp
  refine Calls.mono (cr w2.drew) ?_
  rintro r w5 ⟨rfl, b5⟩
  have B5 : Below w2.heap.size w2 w5 := (Below.refl w2.heap.size w2).drew.trans b5
  refine hK.out _ _ (HS.out _ B5) (fun hHeld => ?_)
  clear hK K g6 g7 g8 g9
  refine wpAnyH_take (i := 7) (v := ?_) rfl (by kernel_rfl) (by kernel_rfl) (by kernel_rfl) (fun _ _ _ h => h) (Or.inl ⟨by rfl, ?_⟩) (by assumption) ?_
  rotate_left
  · intro w hSw
    go_simp
    with_reducible rfl
  simp only [Act.put, List.setIfInBounds_toArray, List.set_cons_zero, List.set_cons_succ, List.getElem_toArray, List.getElem_cons_zero, List.getElem_cons_succ]
  refine wpAnyH_take (i := 8) (v := ?_) rfl (by kernel_rfl) (by kernel_rfl) (by kernel_rfl) (fun _ _ _ h => h) (Or.inl ⟨by rfl, ?_⟩) (by assumption) ?_
  rotate_left
  · intro w hSw
    go_simp
    with_reducible rfl
  simp only [Act.put, List.setIfInBounds_toArray, List.set_cons_zero, List.set_cons_succ, List.getElem_toArray, List.getElem_cons_zero, List.getElem_cons_succ]
  refine wpAnyH_ready (rs := [9]) (by kernel_rfl) (by simp) ?_
  refine AllReadyH.cons rfl (fun K hK => ?_) AllReadyH.nil
  go_simp
  refine Calls.mono (turn_no (.pointer (some ⟨g, 0, none⟩)) 0 0 0 0 E hE) ?_
  rintro r w6 ⟨rfl, b6⟩
  have B6 := B5.trans (b6.mono B5.size)
  have fin := HB.out.trans (B6.mono HB.out.size)
  refine hK.out _ _ (HS.out _ B6) (fun hHeld => ?_)
  clear hK K
  refine wpAnyH_ready (rs := [10]) (by kernel_rfl) (by simp) ?_
  refine AllReadyH.cons rfl (fun K hK => ?_) AllReadyH.nil
  go_simp
  refine hK.out _ _ hHeld (fun hHeld => ?_)
  clear hK K
  refine wpAnyH_done (by kernel_rfl) ?_ _
  refine NoPanic.normal ?_
  go_wp2_with fail
  go_ret
  exact ⟨rfl, fin⟩

set_option maxRecDepth 100000 in
set_option maxHeartbeats 4000000 in
theorem reserve_to {w : World} {g dg : Nat} {xs : List Int} {D : Dk.DS} {F : Nat → Prop} {J : JS} (hJ : JD w g dg J xs D F) (hb : J.broken = false) (m n : Int) (hm : Rc.blocksN m = n) (hn0 : ¬ n = 0) (hnS : ¬ J.S < n) (hR : Rg.R J.S J.T J.U J.H) (h0 : 0 ≤ n) (h1 : n ≤ Rg.fr J.S J.T J.U J.H) :
    Calls Try.prog 13 #[.pointer (some ⟨g, 0, none⟩), .int .i64 m] w fun r w' => r = .returned (.int .i64 0) ∧ JTo w F g dg { J with H := J.H + n } xs D w' := by
  obtain ⟨⟨vs, Fd, h, hd, hFg, hrow, hFv, hFd⟩, hFF, hFlt⟩ := hJ
  have b := re2_below w g n
  have h' : Box (re2 w g n) g (jC g dg vs J) 47 := h.below b
  have hbl := fun u => Rc.blocks_at m u
  rw [hm] at hbl
  have ca := ahead_in41 h' hb (fun x w' => x = 0 ∧ re2 w g n = w') #[.pointer (some ⟨w.heap.size + 1, 0, none⟩), .pointer (some ⟨w.heap.size, 0, none⟩)] ((reserve1_at h' n (re2_b w g n) (re2_a w g n)).mono (by
    rintro r w' ⟨rfl, rfl⟩
    rw [if_neg hn0, if_neg hnS]
    exact ⟨0, rfl, rfl, rfl⟩))
  have cr := fun u => Rg.reserve_ok J.S J.T J.U J.H n u hR h0 h1
  unfold Rg.ri at cr
  have HA : Hid (Box (re2 w g n) w.heap.size #[.pointer (some ⟨g, 0, none⟩)] 23) := re2_a w g n
  have HC : Hid (Box (re2 w g n) (w.heap.size + 1) #[.int .i64 n] 3) := re2_b w g n
  have HH : Hid (Box (re2 w g n) g (jC g dg vs J) 47) := h'
  have HB : Hid (Below w.heap.size w (re2 w g n)) := b
  have HD : Hid (Dk.IsDisk w dg D Fd ∧ ¬ Fd g ∧ (∀ k, vs.ownBlock = some k → ¬ Fd k ∧ F k) ∧ (∀ i, Fd i → F i) ∧ F g ∧ (∀ i, F i → i < w.heap.size) ∧ Box w g (jC g dg vs J) 47 ∧ w.ownsRow 0 3 1 vs xs.length (ics xs)) := ⟨hd, hFg, hFv, hFd, hFF, hFlt, h, hrow⟩
  clear h h' hd hFg hrow hFv hFd hFF hFlt b
  go_enter Try.func13, Try.ntmps13
  go_wp2_with fail
  refine (hbl _).mono ?_
  rintro r w1 ⟨rfl, rfl⟩
  go_wp2_with fail
  refine Calls.mono ca ?_
  rintro r w1 ⟨x, rfl, rfl, rfl⟩
  clear ca hbl
  go_upto_region 5 with fail
  generalize hw2 : re2 w g n = w2 at HH HB HA HC ⊢
  have HS : Hid (∀ u : World, Below w2.heap.size w2 u → u.cell? ⟨w.heap.size, 0, none⟩ = some (.pointer (some ⟨g, 0, none⟩)) ∧ u.cell? ⟨w.heap.size + 1, 0, none⟩ = some (.int .i64 n)) := fun u bu => by
    have y1 := (HA.out.below bu).cell 0
    have y2 := (HC.out.below bu).cell 0
    simp at y1 y2
    exact ⟨y1, y2⟩
  obtain ⟨_, _, _, _, _, _, g6, g7, g8, g9, _, _⟩ := box_cells HH.out
  refine wp_region_noPanic ?_
  refine wp_region_held_drew (S := fun u => u.cell? ⟨w.heap.size, 0, none⟩ = some (.pointer (some ⟨g, 0, none⟩)) ∧ u.cell? ⟨w.heap.size + 1, 0, none⟩ = some (.int .i64 n)) (by kernel_rfl) (HS.out _ (Below.refl _ w2).drew) (fun hHeld => ?_)
  refine wpAnyH_take (i := 0) (v := ?_) rfl (by kernel_rfl) (by kernel_rfl) (by kernel_rfl) (fun _ _ _ h => h) (Or.inl ⟨by rfl, ?_⟩) (by assumption) ?_
  rotate_left
  · intro w hSw
    go_simp
    with_reducible rfl
  simp only [Act.put, List.setIfInBounds_toArray, List.set_cons_zero, List.set_cons_succ, List.getElem_toArray, List.getElem_cons_zero]
  refine wpAnyH_take (i := 1) (v := ?_) rfl (by kernel_rfl) (by kernel_rfl) (by kernel_rfl) (fun _ _ _ h => h) (Or.inl ⟨by rfl, ?_⟩) (by assumption) ?_
  rotate_left
  · intro w hSw
    go_simp
    with_reducible rfl
  simp only [Act.put, List.setIfInBounds_toArray, List.set_cons_zero, List.set_cons_succ, List.getElem_toArray, List.getElem_cons_zero, List.getElem_cons_succ]
  refine wpAnyH_take (i := 2) (v := ?_) rfl (by kernel_rfl) (by kernel_rfl) (by kernel_rfl) (fun _ _ _ h => h) (Or.inl ⟨by rfl, ?_⟩) (by assumption) ?_
  rotate_left
  · intro w hSw
    go_simp
    with_reducible rfl
  simp only [Act.put, List.setIfInBounds_toArray, List.set_cons_zero, List.set_cons_succ, List.getElem_toArray, List.getElem_cons_zero, List.getElem_cons_succ]
  refine wpAnyH_take (i := 3) (v := ?_) rfl (by kernel_rfl) (by kernel_rfl) (by kernel_rfl) (fun _ _ _ h => h) (Or.inl ⟨by rfl, ?_⟩) (by assumption) ?_
  rotate_left
  · intro w hSw
    go_simp
    with_reducible rfl
  simp only [Act.put, List.setIfInBounds_toArray, List.set_cons_zero, List.set_cons_succ, List.getElem_toArray, List.getElem_cons_zero, List.getElem_cons_succ]
  refine wpAnyH_take (i := 5) (v := ?_) rfl (by kernel_rfl) (by kernel_rfl) (by kernel_rfl) (fun _ _ _ h => h) (Or.inl ⟨by rfl, ?_⟩) (by assumption) ?_
  rotate_left
  · intro w hSw
    go_simp
    with_reducible rfl
  simp only [Act.put, List.setIfInBounds_toArray, List.set_cons_zero, List.set_cons_succ, List.getElem_toArray, List.getElem_cons_zero, List.getElem_cons_succ]
  refine wpAnyH_ready (rs := [4]) (by kernel_rfl) (by simp) ?_
  refine AllReadyH.cons rfl (fun K hK => ?_) AllReadyH.nil
  go_simp
  refine hK.out _ _ (HS.out _ (Below.refl _ w2).drew) (fun hHeld => ?_)
  clear hK K
  refine wpAnyH_ready (rs := [6]) (by kernel_rfl) (by simp) ?_
  refine AllReadyH.cons rfl (fun K hK => ?_) AllReadyH.nil
  go_simp
  refine Calls.mono (cr w2.drew) ?_
  rintro r w5 ⟨rfl, b5⟩
  have B5 : Below w2.heap.size w2 w5 := (Below.refl w2.heap.size w2).drew.trans b5
  refine hK.out _ _ (HS.out _ B5) (fun hHeld => ?_)
  clear hK K g6 g7 g8 g9
  refine wpAnyH_take (i := 7) (v := ?_) rfl (by kernel_rfl) (by kernel_rfl) (by kernel_rfl) (fun _ _ _ h => h) (Or.inl ⟨by rfl, ?_⟩) (by assumption) ?_
  rotate_left
  · intro w hSw
    go_simp
    with_reducible rfl
  simp only [Act.put, List.setIfInBounds_toArray, List.set_cons_zero, List.set_cons_succ, List.getElem_toArray, List.getElem_cons_zero, List.getElem_cons_succ]
  refine wpAnyH_take (i := 8) (v := ?_) rfl (by kernel_rfl) (by kernel_rfl) (by kernel_rfl) (fun _ _ _ h => h) (Or.inl ⟨by rfl, ?_⟩) (by assumption) ?_
  rotate_left
  · intro w hSw
    go_simp
    with_reducible rfl
  simp only [Act.put, List.setIfInBounds_toArray, List.set_cons_zero, List.set_cons_succ, List.getElem_toArray, List.getElem_cons_zero, List.getElem_cons_succ]
  refine wpAnyH_ready (rs := [9]) (by kernel_rfl) (by simp) ?_
  refine AllReadyH.cons rfl (fun K hK => ?_) AllReadyH.nil
  go_simp
  refine Calls.mono (turn_ok (HH.out.below B5) J.S J.T J.U (J.H + n)) ?_
  rintro r w6 ⟨rfl, rfl⟩
  obtain ⟨hd, hFg, hFv, hFd, hFF, hFlt, h, hrow⟩ := HD.out
  have fin := ring_end hd hFg hFv hFd hFF hFlt h hrow (HB.out.trans (B5.mono HB.out.size)) (.cells (Rg.ri J.S J.T J.U (J.H + n)) 37) J.S J.T J.U (J.H + n)
  unfold Rg.ri at fin
  have hSS : (((((w5.alloc (.cells #[.int .i64 J.S, .int .i64 J.T, .int .i64 J.U, .int .i64 (J.H + n)] 37)).setCell ⟨g, 6, none⟩ (.int .i64 J.S)).setCell ⟨g, 7, none⟩ (.int .i64 J.T)).setCell ⟨g, 8, none⟩ (.int .i64 J.U)).setCell ⟨g, 9, none⟩ (.int .i64 (J.H + n))).cell? ⟨w.heap.size, 0, none⟩ = some (.pointer (some ⟨g, 0, none⟩)) ∧ (((((w5.alloc (.cells #[.int .i64 J.S, .int .i64 J.T, .int .i64 J.U, .int .i64 (J.H + n)] 37)).setCell ⟨g, 6, none⟩ (.int .i64 J.S)).setCell ⟨g, 7, none⟩ (.int .i64 J.T)).setCell ⟨g, 8, none⟩ (.int .i64 J.U)).setCell ⟨g, 9, none⟩ (.int .i64 (J.H + n))).cell? ⟨w.heap.size + 1, 0, none⟩ = some (.int .i64 n) := by
    obtain ⟨F', hJ', hF', hU⟩ := fin
    have al := (Below.refl w5.heap.size w5).alloc (Nat.le_refl _) (.cells #[.int .i64 J.S, .int .i64 J.T, .int .i64 J.U, .int .i64 (J.H + n)] 37)
    have hset : ∀ k, k ≠ g → k < w2.heap.size → (((((w5.alloc (.cells #[.int .i64 J.S, .int .i64 J.T, .int .i64 J.U, .int .i64 (J.H + n)] 37)).setCell ⟨g, 6, none⟩ (.int .i64 J.S)).setCell ⟨g, 7, none⟩ (.int .i64 J.T)).setCell ⟨g, 8, none⟩ (.int .i64 J.U)).setCell ⟨g, 9, none⟩ (.int .i64 (J.H + n))).heap[k]? = w5.heap[k]? := fun k hk hl => by
      rw [heap_setCell_other _ ⟨g, 9, none⟩ k _ (by simpa using hk), heap_setCell_other _ ⟨g, 8, none⟩ k _ (by simpa using hk), heap_setCell_other _ ⟨g, 7, none⟩ k _ (by simpa using hk), heap_setCell_other _ ⟨g, 6, none⟩ k _ (by simpa using hk)]
      exact al.block k (Nat.lt_of_lt_of_le hl B5.size)
    obtain ⟨s1, s2⟩ := HS.out w5 B5
    exact ⟨(World.cell?_of_block (a := ⟨w.heap.size, 0, none⟩) (hset _ (HA.out.ne HH.out (by decide)) HA.out.lt)).trans s1, (World.cell?_of_block (a := ⟨w.heap.size + 1, 0, none⟩) (hset _ (HC.out.ne HH.out (by decide)) HC.out.lt)).trans s2⟩
  refine hK.out _ _ hSS (fun hHeld => ?_)
  clear hK K hSS
  refine wpAnyH_ready (rs := [10]) (by kernel_rfl) (by simp) ?_
  refine AllReadyH.cons rfl (fun K hK => ?_) AllReadyH.nil
  go_simp
  refine hK.out _ _ hHeld (fun hHeld => ?_)
  clear hK K
  refine wpAnyH_done (by kernel_rfl) ?_ _
  refine NoPanic.normal ?_
  go_wp2_with fail
  go_ret
  exact ⟨rfl, fin⟩

set_option maxRecDepth 100000 in
set_option maxHeartbeats 4000000 in
theorem cancel_full {w : World} {g dg : Nat} {vs : Value} {J : JS} (h : Box w g (jC g dg vs J) 47) (hb : J.broken = false) (m n : Int) (hm : Rc.blocksN m = n) (E : Int) (hE : E ≠ 0) (hn0 : ¬ n = 0) (hr : ¬(Rg.R J.S J.T J.U J.H ∧ 0 ≤ n) ∧ E = 2 ∨ (Rg.R J.S J.T J.U J.H ∧ 0 ≤ n ∧ ¬(n ≤ J.H)) ∧ E = 2) :
    Calls Try.prog 14 #[.pointer (some ⟨g, 0, none⟩), .int .i64 m] w fun r w' => r = .returned (.int .i64 E) ∧ Below w.heap.size w w' := by
  have b := re1_below w n
  have h' : Box (re1 w n) g (jC g dg vs J) 47 := h.below b
  have hbl := fun u => Rc.blocks_at m u
  rw [hm] at hbl
  have ca := ahead_in43 h' hb (fun x w' => x = 0 ∧ re1 w n = w') #[.pointer (some ⟨w.heap.size, 0, none⟩)] ((cancel1_at n (re1_b w n)).mono (by
    rintro r w' ⟨rfl, rfl⟩
    rw [if_neg hn0]
    exact ⟨0, rfl, rfl, rfl⟩))
  have cr := fun u => Rg.release_no J.S J.T J.U J.H n E u hr
  unfold Rg.ri at cr
  have HC : Hid (Box (re1 w n) w.heap.size #[.int .i64 n] 3) := re1_b w n
  have HH : Hid (Box (re1 w n) g (jC g dg vs J) 47) := h'
  have HB : Hid (Below w.heap.size w (re1 w n)) := b
  clear h h' b
  go_enter Try.func14, Try.ntmps14
  go_wp2_with fail
  refine (hbl _).mono ?_
  rintro r w1 ⟨rfl, rfl⟩
  go_wp2_with fail
  refine Calls.mono ca ?_
  rintro r w1 ⟨x, rfl, rfl, rfl⟩
  clear ca hbl
  go_upto_region 5 with fail
  generalize hw2 : re1 w n = w2 at HH HB HC ⊢
  have HS : Hid (∀ u : World, Below w2.heap.size w2 u → u.cell? ⟨w.heap.size, 0, none⟩ = some (.int .i64 n)) := fun u bu => by
    have y2 := (HC.out.below bu).cell 0
    simpa using y2
  obtain ⟨_, _, _, _, _, _, g6, g7, g8, g9, _, _⟩ := box_cells HH.out
  refine wp_region_noPanic ?_
  refine wp_region_held_drew (S := fun u => u.cell? ⟨w.heap.size, 0, none⟩ = some (.int .i64 n)) (by kernel_rfl) (HS.out _ (Below.refl _ w2).drew) (fun hHeld => ?_)
  refine wpAnyH_take (i := 0) (v := ?_) rfl (by kernel_rfl) (by kernel_rfl) (by kernel_rfl) (fun _ _ _ h => h) (Or.inl ⟨by rfl, ?_⟩) (by assumption) ?_
  rotate_left
  · intro w hSw
    go_simp
    with_reducible rfl
  simp only [Act.put, List.setIfInBounds_toArray, List.set_cons_zero, List.set_cons_succ, List.getElem_toArray, List.getElem_cons_zero]
  refine wpAnyH_take (i := 1) (v := ?_) rfl (by kernel_rfl) (by kernel_rfl) (by kernel_rfl) (fun _ _ _ h => h) (Or.inl ⟨by rfl, ?_⟩) (by assumption) ?_
  rotate_left
  · intro w hSw
    go_simp
    with_reducible rfl
  simp only [Act.put, List.setIfInBounds_toArray, List.set_cons_zero, List.set_cons_succ, List.getElem_toArray, List.getElem_cons_zero, List.getElem_cons_succ]
  refine wpAnyH_take (i := 2) (v := ?_) rfl (by kernel_rfl) (by kernel_rfl) (by kernel_rfl) (fun _ _ _ h => h) (Or.inl ⟨by rfl, ?_⟩) (by assumption) ?_
  rotate_left
  · intro w hSw
    go_simp
    with_reducible rfl
  simp only [Act.put, List.setIfInBounds_toArray, List.set_cons_zero, List.set_cons_succ, List.getElem_toArray, List.getElem_cons_zero, List.getElem_cons_succ]
  refine wpAnyH_take (i := 3) (v := ?_) rfl (by kernel_rfl) (by kernel_rfl) (by kernel_rfl) (fun _ _ _ h => h) (Or.inl ⟨by rfl, ?_⟩) (by assumption) ?_
  rotate_left
  · intro w hSw
    go_simp
    with_reducible rfl
  simp only [Act.put, List.setIfInBounds_toArray, List.set_cons_zero, List.set_cons_succ, List.getElem_toArray, List.getElem_cons_zero, List.getElem_cons_succ]
  refine wpAnyH_take (i := 5) (v := ?_) rfl (by kernel_rfl) (by kernel_rfl) (by kernel_rfl) (fun _ _ _ h => h) (Or.inl ⟨by rfl, ?_⟩) (by assumption) ?_
  rotate_left
  · intro w hSw
    go_simp
    with_reducible rfl
  simp only [Act.put, List.setIfInBounds_toArray, List.set_cons_zero, List.set_cons_succ, List.getElem_toArray, List.getElem_cons_zero, List.getElem_cons_succ]
  refine wpAnyH_ready (rs := [4]) (by kernel_rfl) (by simp) ?_
  refine AllReadyH.cons rfl (fun K hK => ?_) AllReadyH.nil
  go_simp
  refine hK.out _ _ (HS.out _ (Below.refl _ w2).drew) (fun hHeld => ?_)
  clear hK K
  refine wpAnyH_ready (rs := [6]) (by kernel_rfl) (by simp) ?_
  refine AllReadyH.cons rfl (fun K hK => ?_) AllReadyH.nil
  go_simp
  refine Calls.mono (cr w2.drew) ?_
  rintro r w5 ⟨rfl, b5⟩
  have B5 : Below w2.heap.size w2 w5 := (Below.refl w2.heap.size w2).drew.trans b5
  refine hK.out _ _ (HS.out _ B5) (fun hHeld => ?_)
  clear hK K g6 g7 g8 g9
  refine wpAnyH_take (i := 7) (v := ?_) rfl (by kernel_rfl) (by kernel_rfl) (by kernel_rfl) (fun _ _ _ h => h) (Or.inl ⟨by rfl, ?_⟩) (by assumption) ?_
  rotate_left
  · intro w hSw
    go_simp
    with_reducible rfl
  simp only [Act.put, List.setIfInBounds_toArray, List.set_cons_zero, List.set_cons_succ, List.getElem_toArray, List.getElem_cons_zero, List.getElem_cons_succ]
  refine wpAnyH_take (i := 8) (v := ?_) rfl (by kernel_rfl) (by kernel_rfl) (by kernel_rfl) (fun _ _ _ h => h) (Or.inl ⟨by rfl, ?_⟩) (by assumption) ?_
  rotate_left
  · intro w hSw
    go_simp
    with_reducible rfl
  simp only [Act.put, List.setIfInBounds_toArray, List.set_cons_zero, List.set_cons_succ, List.getElem_toArray, List.getElem_cons_zero, List.getElem_cons_succ]
  refine wpAnyH_ready (rs := [9]) (by kernel_rfl) (by simp) ?_
  refine AllReadyH.cons rfl (fun K hK => ?_) AllReadyH.nil
  go_simp
  refine Calls.mono (turn_no (.pointer (some ⟨g, 0, none⟩)) 0 0 0 0 E hE) ?_
  rintro r w6 ⟨rfl, b6⟩
  have B6 := B5.trans (b6.mono B5.size)
  have fin := HB.out.trans (B6.mono HB.out.size)
  refine hK.out _ _ (HS.out _ B6) (fun hHeld => ?_)
  clear hK K
  refine wpAnyH_ready (rs := [10]) (by kernel_rfl) (by simp) ?_
  refine AllReadyH.cons rfl (fun K hK => ?_) AllReadyH.nil
  go_simp
  refine hK.out _ _ hHeld (fun hHeld => ?_)
  clear hK K
  refine wpAnyH_done (by kernel_rfl) ?_ _
  refine NoPanic.normal ?_
  go_wp2_with fail
  go_ret
  exact ⟨rfl, fin⟩

set_option maxRecDepth 100000 in
set_option maxHeartbeats 4000000 in
theorem cancel_to {w : World} {g dg : Nat} {xs : List Int} {D : Dk.DS} {F : Nat → Prop} {J : JS} (hJ : JD w g dg J xs D F) (hb : J.broken = false) (m n : Int) (hm : Rc.blocksN m = n) (hn0 : ¬ n = 0) (hR : Rg.R J.S J.T J.U J.H) (h0 : 0 ≤ n) (h1 : n ≤ J.H) :
    Calls Try.prog 14 #[.pointer (some ⟨g, 0, none⟩), .int .i64 m] w fun r w' => r = .returned (.int .i64 0) ∧ JTo w F g dg { J with H := J.H - n } xs D w' := by
  obtain ⟨⟨vs, Fd, h, hd, hFg, hrow, hFv, hFd⟩, hFF, hFlt⟩ := hJ
  have b := re1_below w n
  have h' : Box (re1 w n) g (jC g dg vs J) 47 := h.below b
  have hbl := fun u => Rc.blocks_at m u
  rw [hm] at hbl
  have ca := ahead_in43 h' hb (fun x w' => x = 0 ∧ re1 w n = w') #[.pointer (some ⟨w.heap.size, 0, none⟩)] ((cancel1_at n (re1_b w n)).mono (by
    rintro r w' ⟨rfl, rfl⟩
    rw [if_neg hn0]
    exact ⟨0, rfl, rfl, rfl⟩))
  have cr := fun u => Rg.release_ok J.S J.T J.U J.H n u hR h0 h1
  unfold Rg.ri at cr
  have HC : Hid (Box (re1 w n) w.heap.size #[.int .i64 n] 3) := re1_b w n
  have HH : Hid (Box (re1 w n) g (jC g dg vs J) 47) := h'
  have HB : Hid (Below w.heap.size w (re1 w n)) := b
  have HD : Hid (Dk.IsDisk w dg D Fd ∧ ¬ Fd g ∧ (∀ k, vs.ownBlock = some k → ¬ Fd k ∧ F k) ∧ (∀ i, Fd i → F i) ∧ F g ∧ (∀ i, F i → i < w.heap.size) ∧ Box w g (jC g dg vs J) 47 ∧ w.ownsRow 0 3 1 vs xs.length (ics xs)) := ⟨hd, hFg, hFv, hFd, hFF, hFlt, h, hrow⟩
  clear h h' hd hFg hrow hFv hFd hFF hFlt b
  go_enter Try.func14, Try.ntmps14
  go_wp2_with fail
  refine (hbl _).mono ?_
  rintro r w1 ⟨rfl, rfl⟩
  go_wp2_with fail
  refine Calls.mono ca ?_
  rintro r w1 ⟨x, rfl, rfl, rfl⟩
  clear ca hbl
  go_upto_region 5 with fail
  generalize hw2 : re1 w n = w2 at HH HB HC ⊢
  have HS : Hid (∀ u : World, Below w2.heap.size w2 u → u.cell? ⟨w.heap.size, 0, none⟩ = some (.int .i64 n)) := fun u bu => by
    have y2 := (HC.out.below bu).cell 0
    simpa using y2
  obtain ⟨_, _, _, _, _, _, g6, g7, g8, g9, _, _⟩ := box_cells HH.out
  refine wp_region_noPanic ?_
  refine wp_region_held_drew (S := fun u => u.cell? ⟨w.heap.size, 0, none⟩ = some (.int .i64 n)) (by kernel_rfl) (HS.out _ (Below.refl _ w2).drew) (fun hHeld => ?_)
  refine wpAnyH_take (i := 0) (v := ?_) rfl (by kernel_rfl) (by kernel_rfl) (by kernel_rfl) (fun _ _ _ h => h) (Or.inl ⟨by rfl, ?_⟩) (by assumption) ?_
  rotate_left
  · intro w hSw
    go_simp
    with_reducible rfl
  simp only [Act.put, List.setIfInBounds_toArray, List.set_cons_zero, List.set_cons_succ, List.getElem_toArray, List.getElem_cons_zero]
  refine wpAnyH_take (i := 1) (v := ?_) rfl (by kernel_rfl) (by kernel_rfl) (by kernel_rfl) (fun _ _ _ h => h) (Or.inl ⟨by rfl, ?_⟩) (by assumption) ?_
  rotate_left
  · intro w hSw
    go_simp
    with_reducible rfl
  simp only [Act.put, List.setIfInBounds_toArray, List.set_cons_zero, List.set_cons_succ, List.getElem_toArray, List.getElem_cons_zero, List.getElem_cons_succ]
  refine wpAnyH_take (i := 2) (v := ?_) rfl (by kernel_rfl) (by kernel_rfl) (by kernel_rfl) (fun _ _ _ h => h) (Or.inl ⟨by rfl, ?_⟩) (by assumption) ?_
  rotate_left
  · intro w hSw
    go_simp
    with_reducible rfl
  simp only [Act.put, List.setIfInBounds_toArray, List.set_cons_zero, List.set_cons_succ, List.getElem_toArray, List.getElem_cons_zero, List.getElem_cons_succ]
  refine wpAnyH_take (i := 3) (v := ?_) rfl (by kernel_rfl) (by kernel_rfl) (by kernel_rfl) (fun _ _ _ h => h) (Or.inl ⟨by rfl, ?_⟩) (by assumption) ?_
  rotate_left
  · intro w hSw
    go_simp
    with_reducible rfl
  simp only [Act.put, List.setIfInBounds_toArray, List.set_cons_zero, List.set_cons_succ, List.getElem_toArray, List.getElem_cons_zero, List.getElem_cons_succ]
  refine wpAnyH_take (i := 5) (v := ?_) rfl (by kernel_rfl) (by kernel_rfl) (by kernel_rfl) (fun _ _ _ h => h) (Or.inl ⟨by rfl, ?_⟩) (by assumption) ?_
  rotate_left
  · intro w hSw
    go_simp
    with_reducible rfl
  simp only [Act.put, List.setIfInBounds_toArray, List.set_cons_zero, List.set_cons_succ, List.getElem_toArray, List.getElem_cons_zero, List.getElem_cons_succ]
  refine wpAnyH_ready (rs := [4]) (by kernel_rfl) (by simp) ?_
  refine AllReadyH.cons rfl (fun K hK => ?_) AllReadyH.nil
  go_simp
  refine hK.out _ _ (HS.out _ (Below.refl _ w2).drew) (fun hHeld => ?_)
  clear hK K
  refine wpAnyH_ready (rs := [6]) (by kernel_rfl) (by simp) ?_
  refine AllReadyH.cons rfl (fun K hK => ?_) AllReadyH.nil
  go_simp
  refine Calls.mono (cr w2.drew) ?_
  rintro r w5 ⟨rfl, b5⟩
  have B5 : Below w2.heap.size w2 w5 := (Below.refl w2.heap.size w2).drew.trans b5
  refine hK.out _ _ (HS.out _ B5) (fun hHeld => ?_)
  clear hK K g6 g7 g8 g9
  refine wpAnyH_take (i := 7) (v := ?_) rfl (by kernel_rfl) (by kernel_rfl) (by kernel_rfl) (fun _ _ _ h => h) (Or.inl ⟨by rfl, ?_⟩) (by assumption) ?_
  rotate_left
  · intro w hSw
    go_simp
    with_reducible rfl
  simp only [Act.put, List.setIfInBounds_toArray, List.set_cons_zero, List.set_cons_succ, List.getElem_toArray, List.getElem_cons_zero, List.getElem_cons_succ]
  refine wpAnyH_take (i := 8) (v := ?_) rfl (by kernel_rfl) (by kernel_rfl) (by kernel_rfl) (fun _ _ _ h => h) (Or.inl ⟨by rfl, ?_⟩) (by assumption) ?_
  rotate_left
  · intro w hSw
    go_simp
    with_reducible rfl
  simp only [Act.put, List.setIfInBounds_toArray, List.set_cons_zero, List.set_cons_succ, List.getElem_toArray, List.getElem_cons_zero, List.getElem_cons_succ]
  refine wpAnyH_ready (rs := [9]) (by kernel_rfl) (by simp) ?_
  refine AllReadyH.cons rfl (fun K hK => ?_) AllReadyH.nil
  go_simp
  refine Calls.mono (turn_ok (HH.out.below B5) J.S J.T J.U (J.H - n)) ?_
  rintro r w6 ⟨rfl, rfl⟩
  obtain ⟨hd, hFg, hFv, hFd, hFF, hFlt, h, hrow⟩ := HD.out
  have fin := ring_end hd hFg hFv hFd hFF hFlt h hrow (HB.out.trans (B5.mono HB.out.size)) (.cells (Rg.ri J.S J.T J.U (J.H - n)) 37) J.S J.T J.U (J.H - n)
  unfold Rg.ri at fin
  have hSS : (((((w5.alloc (.cells #[.int .i64 J.S, .int .i64 J.T, .int .i64 J.U, .int .i64 (J.H - n)] 37)).setCell ⟨g, 6, none⟩ (.int .i64 J.S)).setCell ⟨g, 7, none⟩ (.int .i64 J.T)).setCell ⟨g, 8, none⟩ (.int .i64 J.U)).setCell ⟨g, 9, none⟩ (.int .i64 (J.H - n))).cell? ⟨w.heap.size, 0, none⟩ = some (.int .i64 n) := by
    obtain ⟨F', hJ', hF', hU⟩ := fin
    have al := (Below.refl w5.heap.size w5).alloc (Nat.le_refl _) (.cells #[.int .i64 J.S, .int .i64 J.T, .int .i64 J.U, .int .i64 (J.H - n)] 37)
    have hset : ∀ k, k ≠ g → k < w2.heap.size → (((((w5.alloc (.cells #[.int .i64 J.S, .int .i64 J.T, .int .i64 J.U, .int .i64 (J.H - n)] 37)).setCell ⟨g, 6, none⟩ (.int .i64 J.S)).setCell ⟨g, 7, none⟩ (.int .i64 J.T)).setCell ⟨g, 8, none⟩ (.int .i64 J.U)).setCell ⟨g, 9, none⟩ (.int .i64 (J.H - n))).heap[k]? = w5.heap[k]? := fun k hk hl => by
      rw [heap_setCell_other _ ⟨g, 9, none⟩ k _ (by simpa using hk), heap_setCell_other _ ⟨g, 8, none⟩ k _ (by simpa using hk), heap_setCell_other _ ⟨g, 7, none⟩ k _ (by simpa using hk), heap_setCell_other _ ⟨g, 6, none⟩ k _ (by simpa using hk)]
      exact al.block k (Nat.lt_of_lt_of_le hl B5.size)
    exact (World.cell?_of_block (a := ⟨w.heap.size, 0, none⟩) (hset _ (HC.out.ne HH.out (by decide)) HC.out.lt)).trans (HS.out w5 B5)
  refine hK.out _ _ hSS (fun hHeld => ?_)
  clear hK K hSS
  refine wpAnyH_ready (rs := [10]) (by kernel_rfl) (by simp) ?_
  refine AllReadyH.cons rfl (fun K hK => ?_) AllReadyH.nil
  go_simp
  refine hK.out _ _ hHeld (fun hHeld => ?_)
  clear hK K
  refine wpAnyH_done (by kernel_rfl) ?_ _
  refine NoPanic.normal ?_
  go_wp2_with fail
  go_ret
  exact ⟨rfl, fin⟩
end Go.Proofs.Ytglahlbponlepaa.J

/-
  Open that is refused; the disk's power goes, and a Flush says so.
-/
namespace Go.Proofs.Ytglahlbponlepaa.J
open Go.RowKit
open Go.Proofs.Ytglahlbponlepaa.Dk (Box)

theorem lay64 : La.layA 64 = #[.int .i64 64, .int .i64 2, .int .i64 16, .int .i64 18, .int .i64 19, .int .i64 4, .int .i64 23] := by
  have hL : La.lgs 64 = 16 := by decide
  simp [La.layA, hL]
theorem neq40' (u : World) (a b c d e f g a' b' c' d' e' f' g' : Int) : (binOp .neq 40 (.agg #[.int .i64 a, .int .i64 b, .int .i64 c, .int .i64 d, .int .i64 e, .int .i64 f, .int .i64 g]) (.agg #[.int .i64 a', .int .i64 b', .int .i64 c', .int .i64 d', .int .i64 e', .int .i64 f', .int .i64 g'])).run Try.prog u = .ok (.bool (!La.same7 a b c d e f g a' b' c' d' e' f' g')) u := by
  have h := La.eq23 u a b c d e f g a' b' c' d' e' f' g'
  simp only [binOp]
  simp [Op.equal, Op.maxDepth, h]
theorem size_none (w : World) : Calls Try.prog 45 #[.pointer none] w fun e w' => e = .returned (.int .i64 0) ∧ w = w' := by
  go_enter Try.func45, Try.ntmps45
  go_wp2_with fail
  refine (Dk.isMade_none w).mono ?_
  rintro e w' ⟨rfl, rfl⟩
  go_wp2_with fail
  go_ret
  exact ⟨rfl, rfl⟩
theorem open_none (w : World) (a b c d e f g x y z : Int) :
    Calls Try.prog 17 #[.pointer none, .agg #[.int .i64 a, .int .i64 b, .int .i64 c, .int .i64 d, .int .i64 e, .int .i64 f, .int .i64 g], .int .i64 x, .int .i64 y, .int .i64 z] w fun r w' => r = .returned (.tuple #[.pointer none, .int .i64 1]) ∧ Below w.heap.size w w' := by
  have B0 := (Below.refl w.heap.size w).alloc (Nat.le_refl _) (.cells #[.int .i64 a, .int .i64 b, .int .i64 c, .int .i64 d, .int .i64 e, .int .i64 f, .int .i64 g] 40)
  go_enter Try.func17, Try.ntmps17
  go_wp2_with fail
  refine (size_none _).mono ?_
  rintro r w1 ⟨rfl, rfl⟩
  go_wp2_with fail
  exact bodyPost_ret (v := .tuple #[.pointer none, .int .i64 1]) (by simp [results, Try.results17, go_sem]) rfl ⟨rfl, B0⟩

theorem open_epoch {g : Nat} {w : World} {D : Dk.DS} {F : Nat → Prop} (hd : Dk.IsDisk w g D F) (hn : D.nb = 64)  :
    Calls Try.prog 17 #[.pointer (some ⟨g, 0, none⟩), .agg #[.int .i64 64, .int .i64 2, .int .i64 16, .int .i64 18, .int .i64 19, .int .i64 4, .int .i64 23], .int .i64 0, .int .i64 1, .int .i64 0] w fun r w' => r = .returned (.tuple #[.pointer none, .int .i64 2]) ∧ Below w.heap.size w w' := by
  obtain ⟨gd, cd, vu, ps, h⟩ := hd
  have hq := neq40'
  have B0 := (Below.refl w.heap.size w).alloc (Nat.le_refl _) (.cells #[.int .i64 64, .int .i64 2, .int .i64 16, .int .i64 18, .int .i64 19, .int .i64 4, .int .i64 23] 40)
  have l0 := Dk.Box.new w #[.int .i64 64, .int .i64 2, .int .i64 16, .int .i64 18, .int .i64 19, .int .i64 4, .int .i64 23] 40
  have hk : Dk.Lies (w.alloc (.cells #[.int .i64 64, .int .i64 2, .int .i64 16, .int .i64 18, .int .i64 19, .int .i64 4, .int .i64 23] 40)) g D F gd cd vu ps := h.kept (fun i hi => B0.block i (h.flt i hi)) B0.size
  have c1 := Dk.size_at hk
  rw [hn] at c1
  have c2 := fun u => La.of_good 64 u (by decide) (by decide)
  rw [lay64] at c2
  clear hk h
  go_enter Try.func17, Try.ntmps17
  go_wp2_with fail
  refine Calls.mono c1 ?_
  rintro r w1 ⟨rfl, rfl⟩
  go_wp2_with fail
  refine Calls.mono (c2 _) ?_
  rintro r w1 ⟨rfl, b1⟩
  have B1 := B0.trans (b1.mono B0.size)
  have l1 := l0.below b1
  clear b1 c1 c2
  have l2 := l1.alloc (.cells #[.int .i64 64, .int .i64 2, .int .i64 16, .int .i64 18, .int .i64 19, .int .i64 4, .int .i64 23] 40)
  have y0 := l2.cell 0
  have y1 := l2.cell 1
  have y2 := l2.cell 2
  have y3 := l2.cell 3
  have y4 := l2.cell 4
  have y5 := l2.cell 5
  have y6 := l2.cell 6
  simp at y0 y1 y2 y3 y4 y5 y6
  have B2 := B1.alloc B1.size (.cells #[.int .i64 64, .int .i64 2, .int .i64 16, .int .i64 18, .int .i64 19, .int .i64 4, .int .i64 23] 40)
  go_wp2_with fail
  refine (within_at _ _ _ _).mono ?_
  rintro r w2 ⟨rfl, rfl⟩
  rw [decide_eq_false (by decide)]
  go_wp2_with fail
  exact bodyPost_ret (v := .tuple #[.pointer none, .int .i64 2]) (by simp [results, Try.results17, go_sem]) rfl ⟨rfl, B2⟩

theorem open_tail {g : Nat} {w : World} {D : Dk.DS} {F : Nat → Prop} (hd : Dk.IsDisk w g D F) (hn : D.nb = 64)  :
    Calls Try.prog 17 #[.pointer (some ⟨g, 0, none⟩), .agg #[.int .i64 64, .int .i64 2, .int .i64 16, .int .i64 18, .int .i64 19, .int .i64 4, .int .i64 23], .int .i64 1, .int .i64 1, .int .i64 16] w fun r w' => r = .returned (.tuple #[.pointer none, .int .i64 2]) ∧ Below w.heap.size w w' := by
  obtain ⟨gd, cd, vu, ps, h⟩ := hd
  have hq := neq40'
  have B0 := (Below.refl w.heap.size w).alloc (Nat.le_refl _) (.cells #[.int .i64 64, .int .i64 2, .int .i64 16, .int .i64 18, .int .i64 19, .int .i64 4, .int .i64 23] 40)
  have l0 := Dk.Box.new w #[.int .i64 64, .int .i64 2, .int .i64 16, .int .i64 18, .int .i64 19, .int .i64 4, .int .i64 23] 40
  have hk : Dk.Lies (w.alloc (.cells #[.int .i64 64, .int .i64 2, .int .i64 16, .int .i64 18, .int .i64 19, .int .i64 4, .int .i64 23] 40)) g D F gd cd vu ps := h.kept (fun i hi => B0.block i (h.flt i hi)) B0.size
  have c1 := Dk.size_at hk
  rw [hn] at c1
  have c2 := fun u => La.of_good 64 u (by decide) (by decide)
  rw [lay64] at c2
  clear hk h
  go_enter Try.func17, Try.ntmps17
  go_wp2_with fail
  refine Calls.mono c1 ?_
  rintro r w1 ⟨rfl, rfl⟩
  go_wp2_with fail
  refine Calls.mono (c2 _) ?_
  rintro r w1 ⟨rfl, b1⟩
  have B1 := B0.trans (b1.mono B0.size)
  have l1 := l0.below b1
  clear b1 c1 c2
  have l2 := l1.alloc (.cells #[.int .i64 64, .int .i64 2, .int .i64 16, .int .i64 18, .int .i64 19, .int .i64 4, .int .i64 23] 40)
  have y0 := l2.cell 0
  have y1 := l2.cell 1
  have y2 := l2.cell 2
  have y3 := l2.cell 3
  have y4 := l2.cell 4
  have y5 := l2.cell 5
  have y6 := l2.cell 6
  simp at y0 y1 y2 y3 y4 y5 y6
  have B2 := B1.alloc B1.size (.cells #[.int .i64 64, .int .i64 2, .int .i64 16, .int .i64 18, .int .i64 19, .int .i64 4, .int .i64 23] 40)
  go_wp2_with fail
  refine (within_at _ _ _ _).mono ?_
  rintro r w2 ⟨rfl, rfl⟩
  rw [decide_eq_true (by decide)]
  go_wp2_with fail
  refine (within_at _ _ _ _).mono ?_
  rintro r w2 ⟨rfl, rfl⟩
  rw [decide_eq_true (by decide)]
  go_wp2_with fail
  refine (within_at _ _ _ _).mono ?_
  rintro r w2 ⟨rfl, rfl⟩
  rw [decide_eq_false (by decide)]
  go_wp2_with fail
  exact bodyPost_ret (v := .tuple #[.pointer none, .int .i64 2]) (by simp [results, Try.results17, go_sem]) rfl ⟨rfl, B2⟩

theorem open_lay {g : Nat} {w : World} {D : Dk.DS} {F : Nat → Prop} (hd : Dk.IsDisk w g D F) (hn : D.nb = 64)  :
    Calls Try.prog 17 #[.pointer (some ⟨g, 0, none⟩), .agg #[.int .i64 64, .int .i64 2, .int .i64 16, .int .i64 18, .int .i64 19, .int .i64 4, .int .i64 24], .int .i64 1, .int .i64 1, .int .i64 0] w fun r w' => r = .returned (.tuple #[.pointer none, .int .i64 2]) ∧ Below w.heap.size w w' := by
  obtain ⟨gd, cd, vu, ps, h⟩ := hd
  have hq := neq40'
  have B0 := (Below.refl w.heap.size w).alloc (Nat.le_refl _) (.cells #[.int .i64 64, .int .i64 2, .int .i64 16, .int .i64 18, .int .i64 19, .int .i64 4, .int .i64 24] 40)
  have l0 := Dk.Box.new w #[.int .i64 64, .int .i64 2, .int .i64 16, .int .i64 18, .int .i64 19, .int .i64 4, .int .i64 24] 40
  have hk : Dk.Lies (w.alloc (.cells #[.int .i64 64, .int .i64 2, .int .i64 16, .int .i64 18, .int .i64 19, .int .i64 4, .int .i64 24] 40)) g D F gd cd vu ps := h.kept (fun i hi => B0.block i (h.flt i hi)) B0.size
  have c1 := Dk.size_at hk
  rw [hn] at c1
  have c2 := fun u => La.of_good 64 u (by decide) (by decide)
  rw [lay64] at c2
  clear hk h
  go_enter Try.func17, Try.ntmps17
  go_wp2_with fail
  refine Calls.mono c1 ?_
  rintro r w1 ⟨rfl, rfl⟩
  go_wp2_with fail
  refine Calls.mono (c2 _) ?_
  rintro r w1 ⟨rfl, b1⟩
  have B1 := B0.trans (b1.mono B0.size)
  have l1 := l0.below b1
  clear b1 c1 c2
  have l2 := l1.alloc (.cells #[.int .i64 64, .int .i64 2, .int .i64 16, .int .i64 18, .int .i64 19, .int .i64 4, .int .i64 23] 40)
  have y0 := l2.cell 0
  have y1 := l2.cell 1
  have y2 := l2.cell 2
  have y3 := l2.cell 3
  have y4 := l2.cell 4
  have y5 := l2.cell 5
  have y6 := l2.cell 6
  simp at y0 y1 y2 y3 y4 y5 y6
  have B2 := B1.alloc B1.size (.cells #[.int .i64 64, .int .i64 2, .int .i64 16, .int .i64 18, .int .i64 19, .int .i64 4, .int .i64 23] 40)
  go_wp2_with fail
  exact bodyPost_ret (v := .tuple #[.pointer none, .int .i64 2]) (by simp [results, Try.results17, go_sem]) rfl ⟨rfl, B2⟩

theorem arm_to {w : World} {g dg : Nat} {J : JS} {xs : List Int} {D : Dk.DS} {F : Nat → Prop} (h : JD w g dg J xs D F) (n : Int) (hn : n ≤ 9223372036854775807) :
    Calls Try.prog 18 #[.pointer (some ⟨dg, 0, none⟩), .int .i64 n] w fun r w' => r = .returned (.int .i64 (Dk.armE n : Int)) ∧ JTo w F g dg J xs (D.armed n) w' := by
  obtain ⟨⟨vs, Fd, b1, b2, b3, b4, b5, b6⟩, b7, b8⟩ := h
  refine (Dk.arm_at b2 n hn).mono ?_
  rintro r w' ⟨rfl, d1, d2⟩
  exact ⟨rfl, F, ⟨⟨vs, Fd, (d2.block g (b8 g b7) b3).trans b1, d1, b3, owns_kept b4 (fun k hk => d2.block k (b8 k (b5 k hk).2) (b5 k hk).1), b5, b6⟩, b7, fun i hi => Nat.lt_of_lt_of_le (b8 i hi) d2.size⟩, fun i hi => .inl hi,
    ⟨d2.os, d2.tape, d2.output, d2.size, fun k hk hn => d2.block k hk (fun hf => hn (b6 k hf))⟩⟩
theorem box_broken {w : World} {g dg : Nat} {vs : Value} {J : JS} (h : Box w g (jC g dg vs J) 47) (x : Bool) : Box (w.setCell ⟨g, 11, none⟩ (.bool x)) g (jC g dg vs { J with broken := x }) 47 := by
  have q := h.store 11 (.bool x)
  simpa [jC] using q
theorem flush_fails {w : World} {g dg : Nat} {J : JS} {xs : List Int} {D : Dk.DS} {F : Nat → Prop} (h : JD w g dg J xs D F) (hb : J.broken = false) (e : Int) (hE : (D.operE : Int) = e) (he : e ≠ 0) :
    Calls Try.prog 9 #[.pointer (some ⟨g, 0, none⟩)] w fun r w' => r = .returned (.int .i64 e) ∧ JTo w F g dg { J with broken := true } xs D.flush w' := by
  obtain ⟨⟨vs, Fd, b1, b2, b3, b4, b5, b6⟩, b7, b8⟩ := h
  have a := ahead_in31 b1 hb (fun e w' => e = 0 ∧ w = w') #[] ((flush1_at w).mono (by rintro r w' ⟨rfl, rfl⟩; exact ⟨0, rfl, rfl, rfl⟩))
  have c1 := (box_cells b1).2.1
  have cf := Dk.flush_at b2
  rw [hE] at cf
  go_enter Try.func9, Try.ntmps9
  go_wp2_with fail
  refine a.mono ?_
  rintro r w1 ⟨x, rfl, rfl, rfl⟩
  go_wp2_with fail
  refine cf.mono ?_
  rintro r u ⟨rfl, d1, d2⟩
  have d3 : Box u g (jC g dg vs J) 47 := (d2.block g (b8 g b7) b3).trans b1
  have row : u.ownsRow 0 3 1 vs xs.length (ics xs) := owns_kept b4 (fun k hk => d2.block k (b8 k (b5 k hk).2) (b5 k hk).1)
  go_wp2_with fail
  refine (asked_no d3 e he).mono ?_
  rintro r w1 ⟨rfl, rfl⟩
  have hs : ∀ k, k ≠ g → (u.setCell ⟨g, 11, none⟩ (.bool true)).heap[k]? = u.heap[k]? := fun k hk => heap_setCell_other u ⟨g, 11, none⟩ k _ (by simpa using hk)
  have s := Dk.grown_store u g 11 (.bool true)
  have hne : ∀ k, vs.ownBlock = some k → k ≠ g := fun k hk e => by
    obtain ⟨_, cur, hx⟩ := Rc.owns_block row k hk
    subst e
    exact d3.ne hx (by decide) rfl
  have z1 := d2.size
  have z2 := s.size
  have fin : JTo w F g dg { J with broken := true } xs D.flush (u.setCell ⟨g, 11, none⟩ (.bool true)) := by
    refine ⟨F, ⟨⟨vs, Fd, box_broken d3 _, disk_kept d1 (fun i hi => hs i (fun e => b3 (e ▸ hi))) s.size, b3, owns_kept row (fun k hk => hs k (hne k hk)), b5, b6⟩, b7, fun i hi => by have := b8 i hi; omega⟩, fun i hi => .inl hi, ?_⟩
    exact upd_set ⟨d2.os, d2.tape, d2.output, d2.size, fun k hk hn => d2.block k hk (fun hf => hn (b6 k hf))⟩ g 11 (.inl b7) _
  clear hs s hne row d3 d1 d2 cf a c1 b1 b2 b4
  generalize u.setCell ⟨g, 11, none⟩ (.bool true) = u2 at fin ⊢
  have he' := he
  go_wp2_with fail
  go_ret
  exact ⟨rfl, fin⟩
end Go.Proofs.Ytglahlbponlepaa.J

/-
  A journal of the law's, as its calls see it: where its memory lies is hidden.
-/
namespace Go.Proofs.Ytglahlbponlepaa.J
open Go.RowKit
open Go.Proofs.Ytglahlbponlepaa.Dk (Box)

/-- a disk of 64 blocks that nothing stops, with writes to these blocks; at most k were done in all -/
def DN (D : Dk.DS) (ps : List Nat) (k : Nat) : Prop := Calm D ∧ D.nb = 64 ∧ D.uf.map (·.1) = ps ∧ D.n ≤ k
theorem DN.len {D : Dk.DS} {ps : List Nat} {k : Nat} (h : DN D ps k) : D.uf.length = ps.length := by
  have := congrArg List.length h.2.2.1
  simpa using this

/-- all that is the journal's own was made behind w -/
def JW (w : World) (g dg : Nat) (J : JS) (xs : List Int) (D : Dk.DS) (u : World) : Prop := ∃ F, JD u g dg J xs D F ∧ (∀ i, F i → w.heap.size ≤ i) ∧ Below w.heap.size w u
def JK (w : World) (g dg : Nat) (J : JS) (xs : List Int) (ps : List Nat) (k : Nat) (u : World) : Prop := ∃ D, DN D ps k ∧ JW w g dg J xs D u

section
variable {w u : World} {g dg : Nat} {J J' : JS} {xs xs' : List Int} {D D' : Dk.DS} {ps ps' : List Nat} {k k' : Nat}
theorem JW.bel (h : JW w g dg J xs D u) : Below w.heap.size w u := by obtain ⟨_, _, _, h⟩ := h; exact h
theorem JK.bel (h : JK w g dg J xs ps k u) : Below w.heap.size w u := by obtain ⟨_, _, h⟩ := h; exact h.bel
theorem JW.below {v : World} (h : JW w g dg J xs D u) (b : Below u.heap.size u v) : JW w g dg J xs D v := by
  obtain ⟨F, h1, h2, h3⟩ := h
  exact ⟨F, h1.below h1.flt b b.size, h2, h3.trans (b.mono h3.size)⟩
theorem JK.below {v : World} (h : JK w g dg J xs ps k u) (b : Below u.heap.size u v) : JK w g dg J xs ps k v := by
  obtain ⟨D, h1, h2⟩ := h
  exact ⟨D, h1, h2.below b⟩
theorem JW.to {v : World} (h : JW w g dg J xs D u) (hc : ∀ F, JD u g dg J xs D F → JTo u F g dg J' xs' D' v) : JW w g dg J' xs' D' v := by
  obtain ⟨F, h1, h2, h3⟩ := h
  obtain ⟨F', j1, j2, j3⟩ := hc F h1
  exact ⟨F', j1, fun i hi => (j2 i hi).elim (h2 i) (Nat.le_trans h3.size), below_upd h3 j3 h2 h3.size⟩
/-- a call that the journal answers, and that turns it -/
theorem JK.turns {f : Nat} {a : Array Value} {v : Value} (h : JK w g dg J xs ps k u) (hc : ∀ F D, DN D ps k → JD u g dg J xs D F → Calls Try.prog f a u fun r u' => r = .returned v ∧ ∃ D', DN D' ps' k' ∧ JTo u F g dg J' xs' D' u') :
    Calls Try.prog f a u fun r u' => r = .returned v ∧ JK w g dg J' xs' ps' k' u' := by
  obtain ⟨D, hD, F, h1, h2, h3⟩ := h
  refine (hc F D hD h1).mono ?_
  rintro r u' ⟨rfl, D', hD', F', j1, j2, j3⟩
  exact ⟨rfl, D', hD', F', j1, fun i hi => (j2 i hi).elim (h2 i) (Nat.le_trans h3.size), below_upd h3 j3 h2 h3.size⟩
/-- a call that the journal answers, and that leaves it -/
theorem JK.asks {f : Nat} {a : Array Value} {v : Value} (h : JK w g dg J xs ps k u) (hc : ∀ F D, DN D ps k → JD u g dg J xs D F → Calls Try.prog f a u fun r u' => r = .returned v ∧ Below u.heap.size u u') :
    Calls Try.prog f a u fun r u' => r = .returned v ∧ JK w g dg J xs ps k u' := by
  have h' := h
  obtain ⟨D, hD, F, h1, h2, h3⟩ := h
  refine (hc F D hD h1).mono ?_
  rintro r u' ⟨rfl, b⟩
  exact ⟨rfl, h'.below b⟩
theorem same_below {f : Nat} {a : Array Value} {v : Value} {u : World} (h : Calls Try.prog f a u fun r u' => r = .returned v ∧ u = u') : Calls Try.prog f a u fun r u' => r = .returned v ∧ Below u.heap.size u u' :=
  h.mono (by rintro r u' ⟨rfl, rfl⟩; exact ⟨rfl, Below.refl _ _⟩)

theorem JK.opened (t : Nat) (T : Int) (w : World) (ht : t ≤ 15) (hT : T = (t : Int)) :
    Calls Try.prog 5 #[.int .i64 T] w fun r w' => ∃ dg g, r = .returned (.tuple #[.pointer (some ⟨dg, 0, none⟩), .pointer (some ⟨g, 0, none⟩), .bool true]) ∧ JK w g dg ⟨2, 1, 1, 0, 16, T, 0, 0, false⟩ [] [] 1000 w' := by
  refine (opened_law t T w ht hT).mono ?_
  rintro r w' ⟨dg, g, F, D, rfl, h1, h2, h3, h4⟩
  exact ⟨dg, g, rfl, D, h2, F, h1, h3, h4⟩
theorem JK.append {cap : Nat} {al : Option Addr} (N n : Nat) (h : JK w g dg J xs ps k u) (hI : Rc.Imgs u al (grpL N n)) (h1 : 1 ≤ n) (h2 : n ≤ 32)
    (hJ' : J' = { J with next := J.next + 1, U := J.U + (n + 1 : Nat), H := J.H - 0 }) (hxs : xs' = xs ++ [((n + 1 : Nat) : Int)]) (hps : ps' = ps ++ (List.range (n + 1)).map fun i => 2 + (((J.T + J.U) % J.S).toNat + i) % J.S.toNat) (hk : k' = k + (n + 1))
    (hb : J.broken = false) (hs : Rc.okStamp J.epoch J.next = true) (hR : Rg.R J.S J.T J.U J.H) (hr : ((n + 1 : Nat) : Int) ≤ Rg.fr J.S J.T J.U J.H) (hlog : J.log = 2) (hS : J.S = 16) (hx : xs.length ≤ 1000) (hl : ps.length ≤ 10000) (hkl : k ≤ 10000) :
    Calls Try.prog 6 #[.pointer (some ⟨g, 0, none⟩), .slice al n cap, .bool false] u fun r u' => r = .returned (.tuple #[.int .i64 J.next, .int .i64 0]) ∧ JK w g dg J' xs' ps' k' u' := by
  subst hJ' hxs
  refine h.turns fun F D hD hJ => ?_
  have hlen := hD.len
  obtain ⟨d1, d2, d3, d4⟩ := hD
  refine (append_ok (cap := cap) hJ hb (grpL_length N n) hI (grpL_ok _ _ N n h1 h2 hs) hR hr hlog d1 (by omega) (by omega) (by omega) (by omega) hx).mono ?_
  rintro r w' ⟨rfl, h⟩
  refine ⟨rfl, _, ?_, h⟩
  refine ⟨d1, d2, ?_, ?_⟩
  · subst hps
    simp only [grow, List.map_append, d3, wrs, List.map_map]
    rfl
  · subst hps hk
    show D.n + (n + 1) ≤ _
    omega
theorem JK.held {cap : Nat} {al : Option Addr} (N n : Nat) (h : JK w g dg J xs ps k u) (hI : Rc.Imgs u al (grpL N n)) (h1 : 1 ≤ n) (h2 : n ≤ 32)
    (hJ' : J' = { J with next := J.next + 1, U := J.U + (n + 1 : Nat), H := J.H - ((n + 1 : Nat) : Int) }) (hxs : xs' = xs ++ [((n + 1 : Nat) : Int)]) (hps : ps' = ps ++ (List.range (n + 1)).map fun i => 2 + (((J.T + J.U) % J.S).toNat + i) % J.S.toNat) (hk : k' = k + (n + 1))
    (hb : J.broken = false) (hs : Rc.okStamp J.epoch J.next = true) (hR : Rg.R J.S J.T J.U J.H) (hr : ((n + 1 : Nat) : Int) ≤ J.H) (hlog : J.log = 2) (hS : J.S = 16) (hx : xs.length ≤ 1000) (hl : ps.length ≤ 10000) (hkl : k ≤ 10000) :
    Calls Try.prog 6 #[.pointer (some ⟨g, 0, none⟩), .slice al n cap, .bool true] u fun r u' => r = .returned (.tuple #[.int .i64 J.next, .int .i64 0]) ∧ JK w g dg J' xs' ps' k' u' := by
  subst hJ' hxs
  refine h.turns fun F D hD hJ => ?_
  have hlen := hD.len
  obtain ⟨d1, d2, d3, d4⟩ := hD
  refine (append_held (cap := cap) hJ hb (grpL_length N n) hI (grpL_ok _ _ N n h1 h2 hs) hR hr hlog d1 (by omega) (by omega) (by omega) (by omega) hx).mono ?_
  rintro r w' ⟨rfl, h⟩
  refine ⟨rfl, _, ?_, h⟩
  refine ⟨d1, d2, ?_, ?_⟩
  · subst hps
    simp only [grow, List.map_append, d3, wrs, List.map_map]
    rfl
  · subst hps hk
    show D.n + (n + 1) ≤ _
    omega
theorem JK.flush (h : JK w g dg J xs ps k u) (hJ' : J' = { J with synced := J.next - 1 }) (hb : J.broken = false) (h1 : 1 ≤ J.next) (h2 : J.next ≤ 549755813889) :
    Calls Try.prog 9 #[.pointer (some ⟨g, 0, none⟩)] u fun r u' => r = .returned (.int .i64 0) ∧ JK w g dg J' xs [] k u' := by
  subst hJ'
  refine h.turns fun F D hD hJ => ?_
  refine (flush_to hJ hb hD.1.operE h1 h2).mono ?_
  rintro r w' ⟨rfl, h⟩
  obtain ⟨e, c⟩ := hD.1.flush
  refine ⟨rfl, _, ⟨c, ?_, ?_, ?_⟩, h⟩
  · rw [e]; exact hD.2.1
  · rw [e]; rfl
  · rw [e]; exact hD.2.2.2
theorem JK.release (h : JK w g dg J xs ps k u) (s : Int) (c : Nat) (hJ' : J' = { J with T := (J.T + (xs.take c).sum) % J.S, U := J.U - (xs.take c).sum }) (hxs : xs' = xs.drop c) (hb : J.broken = false) (hs : ¬ J.synced < s) (h0 : 0 < xs.length) (hx : xs.length ≤ 1000) (hr : ∀ x ∈ xs, 0 ≤ x ∧ x ≤ 33)
    (hn0 : (xs.length : Int) ≤ J.next) (hn1 : J.next ≤ 549755813889) (hR : Rg.R J.S J.T J.U J.H) (hc : cntTo (J.next - xs.length) s xs.length = c) (hU : (xs.take c).sum ≤ J.U) :
    Calls Try.prog 10 #[.pointer (some ⟨g, 0, none⟩), .int .i64 s] u fun r u' => r = .returned (.int .i64 0) ∧ JK w g dg J' xs' ps k u' := by
  subst hJ' hxs
  refine h.turns fun F D hD hJ => ?_
  refine (release_ok hJ hb s hs h0 hx hr hn0 hn1 hR c hc hU).mono ?_
  rintro r w' ⟨rfl, h⟩
  exact ⟨rfl, _, hD, h⟩
end
end Go.Proofs.Ytglahlbponlepaa.J

/-
  JournalNone: a journal that Open did not make.
-/
namespace Go.Proofs.Ytglahlbponlepaa.J
open Go.RowKit
open Go.Proofs.Ytglahlbponlepaa.Dk (Box)

theorem fields37 : Try.prog.underlying 37 = some (.struct (Try.prog.fieldsOf 37)) := by kernel_rfl
theorem held37 : Try.prog.stoodInHeld 37 = false := by kernel_rfl
theorem eq37 (u : World) (a b c d : Int) : (Op.equalIn 10000 37 (.agg #[.int .i64 a, .int .i64 b, .int .i64 c, .int .i64 d]) (.agg #[.int .i64 a, .int .i64 b, .int .i64 c, .int .i64 d])).run Try.prog u = .ok true u := by
  rw [run_equalIn_agg u 9999 37 _ _ fields37 held37]
  simp only [Program.fieldsOf, Try.underlying37]
  simp [go_sem, Op.eqFields, Try.underlying3]
theorem neq37 (u : World) (a b c d : Int) : (binOp .neq 37 (.agg #[.int .i64 a, .int .i64 b, .int .i64 c, .int .i64 d]) (.agg #[.int .i64 a, .int .i64 b, .int .i64 c, .int .i64 d])).run Try.prog u = .ok (.bool false) u := by
  simp only [binOp]
  simp [Op.equal, Op.maxDepth, eq37]
theorem eql37 (u : World) (a b c d : Int) : (binOp .eql 37 (.agg #[.int .i64 a, .int .i64 b, .int .i64 c, .int .i64 d]) (.agg #[.int .i64 a, .int .i64 b, .int .i64 c, .int .i64 d])).run Try.prog u = .ok (.bool true) u := by
  simp only [binOp]
  simp [Op.equal, Op.maxDepth, eq37]

set_option maxRecDepth 100000 in
set_option maxHeartbeats 4000000 in
theorem none_at (n : Int) (w : World) : Calls Try.prog 4 #[.int .i64 n] w fun r w' => r = .returned (.bool true) ∧ Below w.heap.size w w' := by
  have hq := fun u => neq37 u 0 0 0 0
  have HA : Hid (∀ u, Calls Try.prog 20 #[] u fun r w' => r = .returned (.bool true) ∧ Below u.heap.size u w') := awake_at
  have B0 := ((Below.refl w.heap.size w).alloc (Nat.le_refl _) (.cells #[.pointer none, .pointer none, .int .i64 0, .int .i64 0, .int .i64 0, .int .i64 0, .int .i64 0, .int .i64 0, .int .i64 0, .int .i64 0, .slice none 0 0, .bool false] 47)).alloc (by simp) (.cells #[.pointer none, .pointer (some ⟨w.heap.size, 0, none⟩)] 23)
  have x0 := (Dk.Box.new w #[.pointer none, .pointer none, .int .i64 0, .int .i64 0, .int .i64 0, .int .i64 0, .int .i64 0, .int .i64 0, .int .i64 0, .int .i64 0, .slice none 0 0, .bool false] 47).alloc (.cells #[.pointer none, .pointer (some ⟨w.heap.size, 0, none⟩)] 23)
  have x1 : Box ((w.alloc (.cells #[.pointer none, .pointer none, .int .i64 0, .int .i64 0, .int .i64 0, .int .i64 0, .int .i64 0, .int .i64 0, .int .i64 0, .int .i64 0, .slice none 0 0, .bool false] 47)).alloc (.cells #[.pointer none, .pointer (some ⟨w.heap.size, 0, none⟩)] 23)) (w.heap.size + 1) #[.pointer none, .pointer (some ⟨w.heap.size, 0, none⟩)] 23 := Rg.Box.next w _ _ 23
  go_enter Try.func4, Try.ntmps4
  go_wp2_with fail
  generalize (w.alloc (.cells #[.pointer none, .pointer none, .int .i64 0, .int .i64 0, .int .i64 0, .int .i64 0, .int .i64 0, .int .i64 0, .int .i64 0, .int .i64 0, .slice none 0 0, .bool false] 47)).alloc (.cells #[.pointer none, .pointer (some ⟨w.heap.size, 0, none⟩)] 23) = w0 at B0 x0 x1 ⊢
  have HP : Hid (∀ (u : World) (k : Nat), Below w0.heap.size w0 u → k < 2 → ∃ p, u.cell? ⟨w.heap.size + 1, k, none⟩ = some (.pointer p) ∧ NotMade u (.pointer p)) := fun u k bu hk => by
    have z := bu.size
    have y := x1.below bu
    match k, hk with
    | 0, _ => exact ⟨none, y.cell 0, .inl rfl⟩
    | 1, _ => exact ⟨some ⟨w.heap.size, 0, none⟩, y.cell 1, .inr ⟨_, rfl, (x0.below bu).cell 0, by have := x0.lt; omega⟩⟩
    | k + 2, h => omega
  clear x0 x1
  go_loopw [15] (fun i wr => ∃ k : Nat, k ≤ 2 ∧ i = .int .i64 (k : Int) ∧ Below w0.heap.size w0 wr) (fun i _ => 2 - (intOf i).toNat)
  case atStart => exact ⟨0, by omega, rfl, Below.refl _ _⟩
  case round =>
    obtain ⟨k, hk, rfl, B⟩ := hrel
    by_cases hlt : k < 2
    · obtain ⟨p, hc, hN⟩ := HP.out wr k B hlt
      have hk0 : (0 : Int) ≤ (k : Int) := by omega
      have hki : (k : Int) < 2 := by omega
      go_wp2_with fail
      refine (append_no hN _ _ _ _).mono ?_
      rintro r w1 ⟨rfl, b1⟩
      replace hN := hN.below b1
      replace B := B.trans (b1.mono B.size)
      clear b1 hc
      go_wp2_with fail
      refine (tail_no hN).mono ?_
      rintro r w2 ⟨rfl, rfl⟩
      go_wp2_with fail
      refine (reserve_no hN n).mono ?_
      rintro r w3 ⟨rfl, b3⟩
      replace hN := hN.below b3
      replace B := B.trans (b3.mono B.size)
      clear b3
      go_wp2_with fail
      refine (cancel_no hN n).mono ?_
      rintro r w4 ⟨rfl, b4⟩
      replace hN := hN.below b4
      replace B := B.trans (b4.mono B.size)
      clear b4
      go_wp2_with fail
      refine (flush_no hN).mono ?_
      rintro r w5 ⟨rfl, rfl⟩
      go_wp2_with fail
      refine (release_no hN n).mono ?_
      rintro r w6 ⟨rfl, b6⟩
      replace hN := hN.below b6
      replace B := B.trans (b6.mono B.size)
      clear b6
      go_wp2_with fail
      refine (next_no hN).mono ?_
      rintro r w7 ⟨rfl, rfl⟩
      go_wp2_with fail
      refine (synced_no hN).mono ?_
      rintro r w8 ⟨rfl, rfl⟩
      go_wp2_with fail
      refine (groups_no hN).mono ?_
      rintro r w9 ⟨rfl, rfl⟩
      go_wp2_with fail
      refine (broken_no hN).mono ?_
      rintro r w10 ⟨rfl, rfl⟩
      go_wp2_with fail
      refine (ring_no hN).mono ?_
      rintro r w11 ⟨rfl, b11⟩
      replace B := B.trans (b11.mono B.size)
      clear b11 hN
      go_wp2_with fail
      go_roundw
      case rel => exact ⟨k + 1, by omega, by push_cast; rfl, B⟩
      case measure => simp [intOf]; omega
    · obtain rfl : k = 2 := by omega
      go_wp2_with fail
      refine (HA.out _).mono ?_
      rintro r w1 ⟨rfl, b1⟩
      go_wp2_with fail
      go_ret
      exact ⟨rfl, B0.trans ((B.trans (b1.mono B.size)).mono B0.size)⟩
end Go.Proofs.Ytglahlbponlepaa.J

/-
  JournalNumbers: the fixed examples of the chapter.
-/
namespace Go.Proofs.Ytglahlbponlepaa.J
open Go.RowKit
open Go.Proofs.Ytglahlbponlepaa.Dk (Box)

theorem bad_none (e s : Int) : ¬ Rc.okGroup e s [] := fun h => by
  have := h.1.2.1.1
  simp at this
theorem imgs_none (w : World) : Rc.Imgs w none [] := fun h => by simp at h
theorem armed_operE {D : Dk.DS} {ps : List Nat} {k : Nat} (h : DN D ps k) : (D.armed 0).operE = 6 := by
  obtain ⟨⟨h1, _, _⟩, _⟩ := h
  simp [Dk.DS.armed, Dk.DS.operE, Dk.Fuse.stops, h1]
theorem below_of {F : Nat → Prop} {w u v : World} (h : Below w.heap.size w u) (hU : Dk.Upd F u v) (hF : ∀ i, F i → w.heap.size ≤ i) : Below w.heap.size w v := below_upd h hU hF h.size

set_option maxRecDepth 100000 in
set_option maxHeartbeats 4000000 in
theorem numbers_at (w : World) : Calls Try.prog 3 #[] w fun r w' => r = .returned (.bool true) ∧ Below w.heap.size w w' := by
  have hq := fun u => eql37 u 16 0 16 0
  have HA : Hid (∀ u, Calls Try.prog 20 #[] u fun r w' => r = .returned (.bool true) ∧ Below u.heap.size u w') := awake_at
  go_enter Try.func3, Try.ntmps3
  go_wp2_with fail
  refine (JK.opened 14 14 w (by decide) rfl).mono ?_
  rintro r w0 ⟨dg, g, rfl, hJ⟩
  go_wp2_with fail
  refine (row_law 1 _ (by decide) (by decide)).mono ?_
  rintro r w1 ⟨b, c, rfl, hc, bb⟩
  replace hJ := hJ.below bb
  clear bb
  go_wp2_with fail
  refine (images_law 1 1 w1 b c hc (by decide) (by decide)).mono ?_
  clear hc
  rintro r w2 ⟨a, ca, rfl, hI, bb⟩
  replace hJ := hJ.below bb
  clear bb
  go_wp2_with fail
  refine (hJ.append (cap := ca) (J' := ⟨2, 1, 2, 0, 16, 14, 2, 0, false⟩) (xs' := [2]) (ps' := [16, 17]) (k' := 1002) 1 1 hI (by decide) (by decide) rfl rfl rfl rfl rfl rfl (by decide) (by decide) rfl rfl (by decide) (by decide) (by decide)).mono ?_
  clear hJ
  rintro r w3 ⟨rfl, hJ⟩
  clear hI
  go_wp2_with fail
  refine (row_law 2 _ (by decide) (by decide)).mono ?_
  rintro r w4 ⟨b, c, rfl, hc, bb⟩
  replace hJ := hJ.below bb
  clear bb
  go_wp2_with fail
  refine (images_law 2 2 w4 b c hc (by decide) (by decide)).mono ?_
  clear hc
  rintro r w5 ⟨a, ca, rfl, hI, bb⟩
  replace hJ := hJ.below bb
  clear bb
  go_wp2_with fail
  refine (hJ.append (cap := ca) (J' := ⟨2, 1, 3, 0, 16, 14, 5, 0, false⟩) (xs' := [2, 3]) (ps' := [16, 17, 2, 3, 4]) (k' := 1005) 2 2 hI (by decide) (by decide) rfl rfl rfl rfl rfl rfl (by decide) (by decide) rfl rfl (by decide) (by decide) (by decide)).mono ?_
  clear hJ
  rintro r w6 ⟨rfl, hJ⟩
  clear hI
  go_wp2_with fail
  refine (hJ.flush (J' := ⟨2, 1, 3, 2, 16, 14, 5, 0, false⟩) rfl rfl (by decide) (by decide)).mono ?_
  clear hJ
  rintro r w7 ⟨rfl, hJ⟩
  go_wp2_with fail
  refine (hJ.release (J' := ⟨2, 1, 3, 2, 16, 0, 3, 0, false⟩) (xs' := [3]) 1 1 rfl rfl rfl (by decide) (by decide) (by decide) (by decide) (by decide) (by decide) (by decide) (by decide) (by decide)).mono ?_
  clear hJ
  rintro r w8 ⟨rfl, hJ⟩
  go_wp2_with fail
  refine (hJ.asks (fun F D hD hJD => hJD.box.elim fun _ h => h.elim fun _ h => release_late h rfl 3 (by decide))).mono ?_
  clear hJ
  rintro r w9 ⟨rfl, hJ⟩
  go_wp2_with fail
  refine (hJ.asks (fun F D hD hJD => hJD.box.elim fun _ h => h.elim fun _ h => same_below (next_at h))).mono ?_
  clear hJ
  rintro r w10 ⟨rfl, hJ⟩
  go_wp2_with fail
  refine (hJ.asks (fun F D hD hJD => hJD.box.elim fun _ h => h.elim fun _ h => same_below (synced_at h))).mono ?_
  clear hJ
  rintro r w11 ⟨rfl, hJ⟩
  go_wp2_with fail
  refine (row_law 16 _ (by decide) (by decide)).mono ?_
  rintro r w12 ⟨b, c, rfl, hc, bb⟩
  replace hJ := hJ.below bb
  clear bb
  go_wp2_with fail
  refine (images_law 16 1 w12 b c hc (by decide) (by decide)).mono ?_
  clear hc
  rintro r w13 ⟨a, ca, rfl, hI, bb⟩
  replace hJ := hJ.below bb
  clear bb
  go_wp2_with fail
  refine (hJ.asks (fun F D hD hJD => hJD.box.elim fun _ h => h.elim fun _ h => append_big (cap := ca) h rfl (grpL_length 1 16) hI false (grpL_ok _ _ 1 16 (by decide) (by decide) (by decide)) (by decide))).mono ?_
  clear hJ
  rintro r w14 ⟨rfl, hJ⟩
  clear hI
  go_wp2_with fail
  refine (row_law 13 _ (by decide) (by decide)).mono ?_
  rintro r w15 ⟨b, c, rfl, hc, bb⟩
  replace hJ := hJ.below bb
  clear bb
  go_wp2_with fail
  refine (images_law 13 1 w15 b c hc (by decide) (by decide)).mono ?_
  clear hc
  rintro r w16 ⟨a, ca, rfl, hI, bb⟩
  replace hJ := hJ.below bb
  clear bb
  go_wp2_with fail
  refine (hJ.asks (fun F D hD hJD => hJD.box.elim fun _ h => h.elim fun _ h => append_full (cap := ca) h rfl (grpL_length 1 13) hI (grpL_ok _ _ 1 13 (by decide) (by decide) (by decide)) (by decide) (by decide) (by decide))).mono ?_
  clear hJ
  rintro r w17 ⟨rfl, hJ⟩
  clear hI
  go_wp2_with fail
  refine (hJ.turns (J' := ⟨2, 1, 3, 2, 16, 0, 3, 13, false⟩) (xs' := [3]) (ps' := []) (k' := 1005) fun F D hD hJD => (reserve_to hJD rfl 12 13 rfl (by decide) (by decide) (by decide) (by decide) (by decide)).mono (by rintro r u ⟨rfl, h⟩; exact ⟨rfl, _, hD, h⟩)).mono ?_
  clear hJ
  rintro r w18 ⟨rfl, hJ⟩
  go_wp2_with fail
  refine (hJ.asks (fun F D hD hJD => hJD.box.elim fun _ h => h.elim fun _ h => reserve_arg h rfl 16 17 232 rfl (by decide) (by decide))).mono ?_
  clear hJ
  rintro r w19 ⟨rfl, hJ⟩
  go_wp2_with fail
  refine (hJ.asks (fun F D hD hJD => hJD.box.elim fun _ h => h.elim fun _ h => reserve_arg h rfl 0 0 2 rfl (by decide) (by decide))).mono ?_
  clear hJ
  rintro r w20 ⟨rfl, hJ⟩
  go_wp2_with fail
  refine (hJ.asks (fun F D hD hJD => hJD.box.elim fun _ h => h.elim fun _ h => reserve_arg h rfl 33 0 2 rfl (by decide) (by decide))).mono ?_
  clear hJ
  rintro r w21 ⟨rfl, hJ⟩
  go_wp2_with fail
  refine (hJ.asks (fun F D hD hJD => hJD.box.elim fun _ h => h.elim fun _ h => cancel_arg h rfl 0 0 2 rfl (by decide) (by decide))).mono ?_
  clear hJ
  rintro r w22 ⟨rfl, hJ⟩
  go_wp2_with fail
  refine (hJ.asks (fun F D hD hJD => hJD.box.elim fun _ h => h.elim fun _ h => cancel_full h rfl 13 14 rfl 2 (by decide) (by decide) (.inr ⟨⟨by decide, by decide, by decide⟩, rfl⟩))).mono ?_
  clear hJ
  rintro r w23 ⟨rfl, hJ⟩
  go_wp2_with fail
  refine (row_law 1 _ (by decide) (by decide)).mono ?_
  rintro r w24 ⟨b, c, rfl, hc, bb⟩
  replace hJ := hJ.below bb
  clear bb
  go_wp2_with fail
  refine (images_law 1 1 w24 b c hc (by decide) (by decide)).mono ?_
  clear hc
  rintro r w25 ⟨a, ca, rfl, hI, bb⟩
  replace hJ := hJ.below bb
  clear bb
  go_wp2_with fail
  refine (hJ.asks (fun F D hD hJD => hJD.box.elim fun _ h => h.elim fun _ h => append_full (cap := ca) h rfl (grpL_length 1 1) hI (grpL_ok _ _ 1 1 (by decide) (by decide) (by decide)) (by decide) (by decide) (by decide))).mono ?_
  clear hJ
  rintro r w26 ⟨rfl, hJ⟩
  clear hI
  go_wp2_with fail
  refine (hJ.asks (fun F D hD hJD => hJD.box.elim fun _ h => h.elim fun _ h => append_bad h rfl rfl (imgs_none _) false (by decide) (bad_none _ _))).mono ?_
  clear hJ
  rintro r w27 ⟨rfl, hJ⟩
  go_wp2_with fail
  refine (row_law 12 _ (by decide) (by decide)).mono ?_
  rintro r w28 ⟨b, c, rfl, hc, bb⟩
  replace hJ := hJ.below bb
  clear bb
  go_wp2_with fail
  refine (images_law 12 1 w28 b c hc (by decide) (by decide)).mono ?_
  clear hc
  rintro r w29 ⟨a, ca, rfl, hI, bb⟩
  replace hJ := hJ.below bb
  clear bb
  go_wp2_with fail
  refine (hJ.held (cap := ca) (J' := ⟨2, 1, 4, 2, 16, 0, 16, 0, false⟩) (xs' := [3, 13]) (ps' := [5, 6, 7, 8, 9, 10, 11, 12, 13, 14, 15, 16, 17]) (k' := 1018) 1 12 hI (by decide) (by decide) rfl rfl rfl rfl rfl rfl (by decide) (by decide) rfl rfl (by decide) (by decide) (by decide)).mono ?_
  clear hJ
  rintro r w30 ⟨rfl, hJ⟩
  clear hI
  go_wp2_with fail
  refine (hJ.asks (fun F D hD hJD => hJD.box.elim fun _ h => h.elim fun _ h => ring_at h)).mono ?_
  clear hJ
  rintro r w31 ⟨rfl, hJ⟩
  have cO := fun u => La.ref_good 64 u (by decide) (by decide)
  rw [lay64] at cO
  go_wp2_with fail
  refine Calls.mono (cO _) ?_
  clear cO
  rintro r W ⟨rfl, bb⟩
  obtain ⟨D, hD, F, hJD, hF, hB⟩ := hJ.below bb
  have hlF : ¬ F W.heap.size := fun h => by have := hJD.flt _ h; omega
  have hlw : w.heap.size ≤ W.heap.size := hB.size
  have al := (Below.refl _ W).alloc (Nat.le_refl _) (.cells #[.int .i64 64, .int .i64 2, .int .i64 16, .int .i64 18, .int .i64 19, .int .i64 4, .int .i64 23] 40)
  replace hJD := hJD.below hJD.flt al al.size
  replace hB := hB.trans (al.mono hB.size)
  have l0 := Dk.Box.new W #[.int .i64 64, .int .i64 2, .int .i64 16, .int .i64 18, .int .i64 19, .int .i64 4, .int .i64 23] 40
  clear bb hJ al
  go_wp2_with fail
  refine Calls.mono (open_none _ 64 2 16 18 19 4 23 1 1 0) ?_
  rintro r V ⟨rfl, bb⟩
  replace hJD := hJD.below hJD.flt bb bb.size
  replace hB := hB.trans (bb.mono hB.size)
  replace l0 := l0.below bb
  clear bb
  have y0 := l0.cell 0
  have y1 := l0.cell 1
  have y2 := l0.cell 2
  have y3 := l0.cell 3
  have y4 := l0.cell 4
  have y5 := l0.cell 5
  have y6 := l0.cell 6
  simp at y0 y1 y2 y3 y4 y5 y6
  have cO : Calls Try.prog 17 #[.pointer (some ⟨dg, 0, none⟩), .agg #[.int .i64 64, .int .i64 2, .int .i64 16, .int .i64 18, .int .i64 19, .int .i64 4, .int .i64 23], .int .i64 0, .int .i64 1, .int .i64 0] V fun r u' => r = .returned (.tuple #[.pointer none, .int .i64 2]) ∧ Below V.heap.size V u' := by
    obtain ⟨Fd, hd, _⟩ := hJD.disk
    exact open_epoch hd hD.2.1
  go_wp2_with fail
  refine Calls.mono cO ?_
  clear cO
  rintro r Va ⟨rfl, bb⟩
  replace hJD := hJD.below hJD.flt bb bb.size
  replace hB := hB.trans (bb.mono hB.size)
  replace l0 := l0.below bb
  clear bb y0 y1 y2 y3 y4 y5 y6
  clear V
  generalize Va = V at hJD hB l0 ⊢
  have y0 := l0.cell 0
  have y1 := l0.cell 1
  have y2 := l0.cell 2
  have y3 := l0.cell 3
  have y4 := l0.cell 4
  have y5 := l0.cell 5
  have y6 := l0.cell 6
  simp at y0 y1 y2 y3 y4 y5 y6
  have cO : Calls Try.prog 17 #[.pointer (some ⟨dg, 0, none⟩), .agg #[.int .i64 64, .int .i64 2, .int .i64 16, .int .i64 18, .int .i64 19, .int .i64 4, .int .i64 23], .int .i64 1, .int .i64 1, .int .i64 16] V fun r u' => r = .returned (.tuple #[.pointer none, .int .i64 2]) ∧ Below V.heap.size V u' := by
    obtain ⟨Fd, hd, _⟩ := hJD.disk
    exact open_tail hd hD.2.1
  go_wp2_with fail
  refine Calls.mono cO ?_
  clear cO
  rintro r Vb ⟨rfl, bb⟩
  replace hJD := hJD.below hJD.flt bb bb.size
  replace hB := hB.trans (bb.mono hB.size)
  replace l0 := l0.below bb
  clear bb y0 y1 y2 y3 y4 y5 y6
  clear V
  generalize Vb = V at hJD hB l0 ⊢
  have y0 := l0.cell 0
  have y1 := l0.cell 1
  have y2 := l0.cell 2
  have y3 := l0.cell 3
  have y4 := l0.cell 4
  have y5 := l0.cell 5
  have y6 := l0.cell 6
  simp at y0 y1 y2 y3 y4 y5 y6
  have f6 := l0.frozen 6
  have hst : Box (V.setCell ⟨W.heap.size, 6, none⟩ (.int .i64 24)) W.heap.size #[.int .i64 64, .int .i64 2, .int .i64 16, .int .i64 18, .int .i64 19, .int .i64 4, .int .i64 24] 40 := by simpa using l0.store 6 (.int .i64 24)
  have hJ2 := hJD.kept (w' := V.setCell ⟨W.heap.size, 6, none⟩ (.int .i64 24)) (fun i hi => heap_setCell_other V ⟨W.heap.size, 6, none⟩ i _ (fun e => hlF (by simp at e; rw [← e]; exact hi))) (by simp)
  have hB2 := hB.setCell (p := ⟨W.heap.size, 6, none⟩) hlw (.int .i64 24)
  have cO : Calls Try.prog 17 #[.pointer (some ⟨dg, 0, none⟩), .agg #[.int .i64 64, .int .i64 2, .int .i64 16, .int .i64 18, .int .i64 19, .int .i64 4, .int .i64 24], .int .i64 1, .int .i64 1, .int .i64 0] (V.setCell ⟨W.heap.size, 6, none⟩ (.int .i64 24)) fun r u' => r = .returned (.tuple #[.pointer none, .int .i64 2]) ∧ Below (V.setCell ⟨W.heap.size, 6, none⟩ (.int .i64 24)).heap.size (V.setCell ⟨W.heap.size, 6, none⟩ (.int .i64 24)) u' := by
    obtain ⟨Fd, hd, _⟩ := hJ2.disk
    exact open_lay hd hD.2.1
  clear hJD hB hst
  go_wp2_with fail
  refine Calls.mono cO ?_
  clear cO
  rintro r X ⟨rfl, bb⟩
  have hJ : JK w g dg ⟨2, 1, 4, 2, 16, 0, 16, 0, false⟩ [3, 13] [5, 6, 7, 8, 9, 10, 11, 12, 13, 14, 15, 16, 17] 1018 X := ⟨D, hD, F, hJ2.below hJ2.flt bb bb.size, hF, hB2.trans (bb.mono hB2.size)⟩
  clear bb y0 y1 y2 y3 y4 y5 y6 hJ2 hB2 l0 f6 hlF hlw hF hD
  obtain ⟨D, hD, F, hJD, hF, hB⟩ := hJ
  go_wp2_with fail
  refine (arm_to hJD 0 (by decide)).mono ?_
  rintro r X1 ⟨rfl, F1, hJ1, hF1, hU1⟩
  have hB1 := below_of hB hU1 hF
  have hF1w : ∀ i, F1 i → w.heap.size ≤ i := fun i hi => (hF1 i hi).elim (hF i) (Nat.le_trans hB.size)
  have hE := armed_operE hD
  clear hJD hF hB hF1 hU1 hD
  go_wp2_with fail
  refine (flush_fails hJ1 rfl 6 (by rw [hE]; rfl) (by decide)).mono ?_
  rintro r X2 ⟨rfl, F2, hJ2, hF2, hU2⟩
  have hB2 := below_of hB1 hU2 hF1w
  obtain ⟨a2, c2, hx⟩ := hJ2.box
  clear hJ1 hF1w hB1 hF2 hU2 hE hJ2
  go_wp2_with fail
  refine (broken_at hx).mono ?_
  rintro r X3 ⟨rfl, rfl⟩
  go_wp2_with fail
  refine (reserve_broken hx rfl 0).mono ?_
  rintro r X4 ⟨rfl, bb⟩
  replace hx := hx.below bb
  replace hB2 := hB2.trans (bb.mono hB2.size)
  clear bb
  go_wp2_with fail
  refine (cancel_broken hx rfl 0).mono ?_
  rintro r X5 ⟨rfl, bb⟩
  replace hx := hx.below bb
  replace hB2 := hB2.trans (bb.mono hB2.size)
  clear bb
  go_wp2_with fail
  refine (release_broken hx rfl 99).mono ?_
  rintro r X6 ⟨rfl, bb⟩
  replace hB2 := hB2.trans (bb.mono hB2.size)
  clear bb hx
  go_wp2_with fail
  refine (HA.out _).mono ?_
  rintro r X7 ⟨rfl, bb⟩
  replace hB2 := hB2.trans (bb.mono hB2.size)
  clear bb
  go_wp2_with fail
  go_ret
  exact ⟨rfl, hB2⟩
end Go.Proofs.Ytglahlbponlepaa.J
