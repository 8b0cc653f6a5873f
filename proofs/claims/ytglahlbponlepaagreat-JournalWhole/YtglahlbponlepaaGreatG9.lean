/-
  JRsv, JK, JLine, JSt, DkBackw, DkCopy, DkStand, JOps: put together.
-/
import Derived.Test.YtglahlbponlepaaGreatG8
import Derived.ArgAppend
import Derived.RangeFuncNested
import Derived.RangeFuncBound
import Derived.RangeFuncCalls
import Derived.RangeFuncLeaves
import Derived.Shelf.Abstract
import Derived.Shelf.RegionOpen
import Derived.WalkKit
import Derived.OwnWalkIn
import Derived.TacticsInMore
import Derived.LoopNIn
import Derived.LoopIn
/-
  Reserve and Cancel.
-/
namespace Go.Proofs.YtglahlbponlepaaGreat.J
open Go.RowKit
open Go.Proofs.YtglahlbponlepaaGreat.Dk (Box)

/-- the world behind Cancel's box -/
def re1 (w : World) (n : Int) : World := w.alloc (.cells #[.int .i64 n] 3)
theorem re1_b (w : World) (n : Int) : Box (re1 w n) w.heap.size #[.int .i64 n] 3 := Dk.Box.new w _ 3
theorem re1_below (w : World) (n : Int) : Below w.heap.size w (re1 w n) := (Below.refl w.heap.size w).alloc (Nat.le_refl _) _

/-- a journal's ring is turned, behind new memory -/
theorem ring_end {w w5 : World} {g dg : Nat} {vs : Value} {J : JS} {xs : List Int} {D : Dk.DS} {F Fd : Nat → Prop} (hd : Dk.IsDisk w dg D Fd) (hFg : ¬ Fd g) (hFv : ∀ k, vs.ownBlock = some k → ¬ Fd k ∧ F k) (hFd : ∀ i, Fd i → F i) (hFF : F g) (hFlt : ∀ i, F i → i < w.heap.size)
    (h : Box w g (jC g dg vs J) 63) (hr : w.ownsRow 0 3 1 vs xs.length (ics xs)) (b5 : Below w.heap.size w w5) (o : Obj) (S T U H : Int) :
    JTo w F g dg { J with S := S, T := T, U := U, H := H } xs D (((((w5.alloc o).setCell ⟨g, 6, none⟩ (.int .i64 S)).setCell ⟨g, 7, none⟩ (.int .i64 T)).setCell ⟨g, 8, none⟩ (.int .i64 U)).setCell ⟨g, 9, none⟩ (.int .i64 H)) := by
  have B := b5.alloc b5.size o
  have hb := box_ring (h.below B) S T U H
  have hlt := h.lt
  have hset : ∀ k, k ≠ g → (((((w5.alloc o).setCell ⟨g, 6, none⟩ (.int .i64 S)).setCell ⟨g, 7, none⟩ (.int .i64 T)).setCell ⟨g, 8, none⟩ (.int .i64 U)).setCell ⟨g, 9, none⟩ (.int .i64 H)).heap[k]? = (w5.alloc o).heap[k]? := fun k hk => by
    rw [heap_setCell_other _ ⟨g, 9, none⟩ k _ (by simpa using hk), heap_setCell_other _ ⟨g, 8, none⟩ k _ (by simpa using hk), heap_setCell_other _ ⟨g, 7, none⟩ k _ (by simpa using hk), heap_setCell_other _ ⟨g, 6, none⟩ k _ (by simpa using hk)]
  have hne : ∀ k, vs.ownBlock = some k → k ≠ g := fun k hk e => by
    obtain ⟨_, cur, hx⟩ := Rc.owns_block hr k hk
    subst e
    exact h.ne hx (by decide) rfl
  have row := owns_kept hr (fun k hk => (hset k (hne k hk)).trans (B.block k (hFlt k (hFv k hk).2)))
  exact JTo.same hd hFg hFv hFd hFF hFlt hb row rfl (upd_set (upd_set (upd_set (upd_set (upd_below B) g 6 (.inl (.inl rfl)) _) g 7 (.inl (.inl rfl)) _) g 8 (.inl (.inl rfl)) _) g 9 (.inl (.inl rfl)) _)

theorem reserve_arg {w : World} {g dg : Nat} {vs : Value} {J : JS} (h : Box w g (jC g dg vs J) 63) (hb : J.broken = false) (m n e : Int) (hm : Rc.blocksN m = n) (he : e ≠ 0) (hv : (if n = 0 then 2 else if J.S < n then 232 else 0) = e) :
    Calls Tryz.prog 8 #[.pointer (some ⟨g, 0, none⟩), .int .i64 m] w fun r w' => r = .returned (.int .i64 e) ∧ Below w.heap.size w w' := by
  have b := re2_below w g n
  have h' : Box (re2 w g n) g (jC g dg vs J) 63 := h.below b
  have hbl := fun u => Rc.blocks_at m u
  rw [hm] at hbl
  have ca := ahead_in41 h' hb (fun x w' => x = e ∧ re2 w g n = w') #[.pointer (some ⟨w.heap.size + 1, 0, none⟩), .pointer (some ⟨w.heap.size, 0, none⟩)] ((reserve1_at h' n (re2_b w g n) (re2_a w g n)).mono (by
    rintro r w' ⟨rfl, rfl⟩
    exact ⟨e, by rw [hv], rfl, rfl⟩))
  go_enter Tryz.func8, Tryz.ntmps8
  go_wp2_with fail
  refine (hbl _).mono ?_
  rintro r w1 ⟨rfl, rfl⟩
  go_wp2_with fail
  refine Calls.mono ca ?_
  rintro r w1 ⟨x, rfl, rfl, rfl⟩
  have he' := he
  go_wp2_with fail
  go_ret
  exact ⟨rfl, b⟩

theorem cancel_arg {w : World} {g dg : Nat} {vs : Value} {J : JS} (h : Box w g (jC g dg vs J) 63) (hb : J.broken = false) (m n e : Int) (hm : Rc.blocksN m = n) (he : e ≠ 0) (hv : (if n = 0 then (2 : Int) else 0) = e) :
    Calls Tryz.prog 12 #[.pointer (some ⟨g, 0, none⟩), .int .i64 m] w fun r w' => r = .returned (.int .i64 e) ∧ Below w.heap.size w w' := by
  have b := re1_below w n
  have h' : Box (re1 w n) g (jC g dg vs J) 63 := h.below b
  have hbl := fun u => Rc.blocks_at m u
  rw [hm] at hbl
  have ca := ahead_in43 h' hb (fun x w' => x = e ∧ re1 w n = w') #[.pointer (some ⟨w.heap.size, 0, none⟩)] ((cancel1_at n (re1_b w n)).mono (by
    rintro r w' ⟨rfl, rfl⟩
    exact ⟨e, by rw [hv], rfl, rfl⟩))
  go_enter Tryz.func12, Tryz.ntmps12
  go_wp2_with fail
  refine (hbl _).mono ?_
  rintro r w1 ⟨rfl, rfl⟩
  go_wp2_with fail
  refine Calls.mono ca ?_
  rintro r w1 ⟨x, rfl, rfl, rfl⟩
  have he' := he
  go_wp2_with fail
  go_ret
  exact ⟨rfl, b⟩

theorem reserve_broken {w : World} {g dg : Nat} {vs : Value} {J : JS} (h : Box w g (jC g dg vs J) 63) (hb : J.broken = true) (m : Int) :
    Calls Tryz.prog 8 #[.pointer (some ⟨g, 0, none⟩), .int .i64 m] w fun r w' => r = .returned (.int .i64 4) ∧ Below w.heap.size w w' := by
  obtain ⟨n, hm⟩ : ∃ n, Rc.blocksN m = n := ⟨_, rfl⟩
  have hbl := fun u => Rc.blocks_at m u
  rw [hm] at hbl
  have b := re2_below w g n
  have h' : Box (re2 w g n) g (jC g dg vs J) 63 := h.below b
  have ca := ahead_broken h' hb (.func (.func 30) #[] #[.pointer (some ⟨w.heap.size + 1, 0, none⟩), .pointer (some ⟨w.heap.size, 0, none⟩)])
  go_enter Tryz.func8, Tryz.ntmps8
  go_wp2_with fail
  refine (hbl _).mono ?_
  rintro r w1 ⟨rfl, rfl⟩
  go_wp2_with fail
  refine Calls.mono ca ?_
  rintro r w1 ⟨rfl, rfl⟩
  go_wp2_with fail
  go_ret
  exact ⟨rfl, b⟩

theorem cancel_broken {w : World} {g dg : Nat} {vs : Value} {J : JS} (h : Box w g (jC g dg vs J) 63) (hb : J.broken = true) (m : Int) :
    Calls Tryz.prog 12 #[.pointer (some ⟨g, 0, none⟩), .int .i64 m] w fun r w' => r = .returned (.int .i64 4) ∧ Below w.heap.size w w' := by
  obtain ⟨n, hm⟩ : ∃ n, Rc.blocksN m = n := ⟨_, rfl⟩
  have hbl := fun u => Rc.blocks_at m u
  rw [hm] at hbl
  have b := re1_below w n
  have h' : Box (re1 w n) g (jC g dg vs J) 63 := h.below b
  have ca := ahead_broken h' hb (.func (.func 38) #[] #[.pointer (some ⟨w.heap.size, 0, none⟩)])
  go_enter Tryz.func12, Tryz.ntmps12
  go_wp2_with fail
  refine (hbl _).mono ?_
  rintro r w1 ⟨rfl, rfl⟩
  go_wp2_with fail
  refine Calls.mono ca ?_
  rintro r w1 ⟨rfl, rfl⟩
  go_wp2_with fail
  go_ret
  exact ⟨rfl, b⟩

set_option maxRecDepth 100000 in
set_option maxHeartbeats 4000000 in
theorem reserve_full {w : World} {g dg : Nat} {vs : Value} {J : JS} (h : Box w g (jC g dg vs J) 63) (hb : J.broken = false) (m n : Int) (hm : Rc.blocksN m = n) (E : Int) (hE : E ≠ 0) (hn0 : ¬ n = 0) (hnS : ¬ J.S < n) (hr : ¬(Rg.R J.S J.T J.U J.H ∧ 0 ≤ n) ∧ E = 2 ∨ (Rg.R J.S J.T J.U J.H ∧ 0 ≤ n ∧ ¬(n ≤ Rg.fr J.S J.T J.U J.H)) ∧ E = 5) :
    Calls Tryz.prog 8 #[.pointer (some ⟨g, 0, none⟩), .int .i64 m] w fun r w' => r = .returned (.int .i64 E) ∧ Below w.heap.size w w' := by
  have b := re2_below w g n
  have h' : Box (re2 w g n) g (jC g dg vs J) 63 := h.below b
  have hbl := fun u => Rc.blocks_at m u
  rw [hm] at hbl
  have ca := ahead_in41 h' hb (fun x w' => x = 0 ∧ re2 w g n = w') #[.pointer (some ⟨w.heap.size + 1, 0, none⟩), .pointer (some ⟨w.heap.size, 0, none⟩)] ((reserve1_at h' n (re2_b w g n) (re2_a w g n)).mono (by
    rintro r w' ⟨rfl, rfl⟩
    rw [if_neg hn0, if_neg hnS]
    exact ⟨0, rfl, rfl, rfl⟩))
  have cr := fun u => Rg.reserve_no J.S J.T J.U J.H n E u hr
  unfold Rg.ri at cr
  have HA : Hid (Box (re2 w g n) w.heap.size #[.pointer (some ⟨g, 0, none⟩)] 24) := re2_a w g n
  have HC : Hid (Box (re2 w g n) (w.heap.size + 1) #[.int .i64 n] 3) := re2_b w g n
  have HH : Hid (Box (re2 w g n) g (jC g dg vs J) 63) := h'
  have HB : Hid (Below w.heap.size w (re2 w g n)) := b
  clear h h' b
  go_enter Tryz.func8, Tryz.ntmps8
  go_wp2_with fail
  refine (hbl _).mono ?_
  rintro r w1 ⟨rfl, rfl⟩
  go_wp2_with fail
  refine Calls.mono ca ?_
  rintro r w1 ⟨x, rfl, rfl, rfl⟩
  clear ca hbl
  go_upto_region 5 with fail
  generalize hw2 : re2 w g n = w2 at HH HB HA HC ⊢
  have HS : Hid (∀ u : World, Below w2.heap.size w2 u → u.cell? ⟨w.heap.size, 0, none⟩ = some (.pointer (some ⟨g, 0, none⟩)) ∧ u.cell? ⟨w.heap.size + 1, 0, none⟩ = some (.int .i64 n)) := fun u bu => by
    have y1 := (HA.out.below bu).cell 0
    have y2 := (HC.out.below bu).cell 0
    simp at y1 y2
    exact ⟨y1, y2⟩
  obtain ⟨_, _, _, _, _, _, g6, g7, g8, g9, _, _⟩ := box_cells HH.out
  refine wp_region_noPanic ?_
  refine wp_region_held_drew (S := fun u => u.cell? ⟨w.heap.size, 0, none⟩ = some (.pointer (some ⟨g, 0, none⟩)) ∧ u.cell? ⟨w.heap.size + 1, 0, none⟩ = some (.int .i64 n)) (by kernel_rfl) (HS.out _ (Below.refl _ w2).drew) (fun hHeld => ?_)
  refine wpAnyH_take (i := 0) (v := ?_) rfl (by kernel_rfl) (by kernel_rfl) (by kernel_rfl) (fun _ _ _ h => h) (Or.inl ⟨by rfl, ?_⟩) (by assumption) ?_
  rotate_left
  · intro w hSw
    go_simp
    with_reducible rfl
  simp only [Act.put, List.setIfInBounds_toArray, List.set_cons_zero, List.set_cons_succ, List.getElem_toArray, List.getElem_cons_zero]
  refine wpAnyH_take (i := 1) (v := ?_) rfl (by kernel_rfl) (by kernel_rfl) (by kernel_rfl) (fun _ _ _ h => h) (Or.inl ⟨by rfl, ?_⟩) (by assumption) ?_
  rotate_left
  · intro w hSw
    go_simp
    with_reducible rfl
  simp only [Act.put, List.setIfInBounds_toArray, List.set_cons_zero, List.set_cons_succ, List.getElem_toArray, List.getElem_cons_zero, List.getElem_cons_succ]
  refine wpAnyH_take (i := 2) (v := ?_) rfl (by kernel_rfl) (by kernel_rfl) (by kernel_rfl) (fun _ _ _ h => h) (Or.inl ⟨by rfl, ?_⟩) (by assumption) ?_
  rotate_left
  · intro w hSw
    go_simp
    with_reducible rfl
  simp only [Act.put, List.setIfInBounds_toArray, List.set_cons_zero, List.set_cons_succ, List.getElem_toArray, List.getElem_cons_zero, List.getElem_cons_succ]
  refine wpAnyH_take (i := 3) (v := ?_) rfl (by kernel_rfl) (by kernel_rfl) (by kernel_rfl) (fun _ _ _ h => h) (Or.inl ⟨by rfl, ?_⟩) (by assumption) ?_
  rotate_left
  · intro w hSw
    go_simp
    with_reducible rfl
  simp only [Act.put, List.setIfInBounds_toArray, List.set_cons_zero, List.set_cons_succ, List.getElem_toArray, List.getElem_cons_zero, List.getElem_cons_succ]
  refine wpAnyH_take (i := 5) (v := ?_) rfl (by kernel_rfl) (by kernel_rfl) (by kernel_rfl) (fun _ _ _ h => h) (Or.inl ⟨by rfl, ?_⟩) (by assumption) ?_
  rotate_left
  · intro w hSw
    go_simp
    with_reducible rfl
  simp only [Act.put, List.setIfInBounds_toArray, List.set_cons_zero, List.set_cons_succ, List.getElem_toArray, List.getElem_cons_zero, List.getElem_cons_succ]
  refine wpAnyH_ready (rs := [4]) (by kernel_rfl) (by simp) ?_
  refine AllReadyH.cons rfl (fun K hK => ?_) AllReadyH.nil
  go_simp
  refine hK.out _ _ (HS.out _ (Below.refl _ w2).drew) (fun hHeld => ?_)
  clear hK K
  refine wpAnyH_ready (rs := [6]) (by kernel_rfl) (by simp) ?_
  refine AllReadyH.cons rfl (fun K hK => ?_) AllReadyH.nil
  go_simp
  refine Calls.mono (cr w2.drew) ?_
  rintro r w5 ⟨rfl, b5⟩
  have B5 : Below w2.heap.size w2 w5 := (Below.refl w2.heap.size w2).drew.trans b5
  refine hK.out _ _ (HS.out _ B5) (fun hHeld => ?_)
  clear hK K g6 g7 g8 g9
  refine wpAnyH_take (i := 7) (v := ?_) rfl (by kernel_rfl) (by kernel_rfl) (by kernel_rfl) (fun _ _ _ h => h) (Or.inl ⟨by rfl, ?_⟩) (by assumption) ?_
  rotate_left
  · intro w hSw
    go_simp
    with_reducible rfl
  simp only [Act.put, List.setIfInBounds_toArray, List.set_cons_zero, List.set_cons_succ, List.getElem_toArray, List.getElem_cons_zero, List.getElem_cons_succ]
  refine wpAnyH_take (i := 8) (v := ?_) rfl (by kernel_rfl) (by kernel_rfl) (by kernel_rfl) (fun _ _ _ h => h) (Or.inl ⟨by rfl, ?_⟩) (by assumption) ?_
  rotate_left
  · intro w hSw
    go_simp
    with_reducible rfl
  simp only [Act.put, List.setIfInBounds_toArray, List.set_cons_zero, List.set_cons_succ, List.getElem_toArray, List.getElem_cons_zero, List.getElem_cons_succ]
  refine wpAnyH_ready (rs := [9]) (by kernel_rfl) (by simp) ?_
  refine AllReadyH.cons rfl (fun K hK => ?_) AllReadyH.nil
  go_simp
  refine Calls.mono (turn_no (.pointer (some ⟨g, 0, none⟩)) 0 0 0 0 E hE) ?_
  rintro r w6 ⟨rfl, b6⟩
  have B6 := B5.trans (b6.mono B5.size)
  have fin := HB.out.trans (B6.mono HB.out.size)
  refine hK.out _ _ (HS.out _ B6) (fun hHeld => ?_)
  clear hK K
  refine wpAnyH_ready (rs := [10]) (by kernel_rfl) (by simp) ?_
  refine AllReadyH.cons rfl (fun K hK => ?_) AllReadyH.nil
  go_simp
  refine hK.out _ _ hHeld (fun hHeld => ?_)
  clear hK K
  refine wpAnyH_done (by kernel_rfl) ?_ _
  refine NoPanic.normal ?_
  go_wp2_with fail
  go_ret
  exact ⟨rfl, fin⟩

set_option maxRecDepth 100000 in
set_option maxHeartbeats 4000000 in
theorem reserve_to {w : World} {g dg : Nat} {xs : List Int} {D : Dk.DS} {F : Nat → Prop} {J : JS} (hJ : JD w g dg J xs D F) (hb : J.broken = false) (m n : Int) (hm : Rc.blocksN m = n) (hn0 : ¬ n = 0) (hnS : ¬ J.S < n) (hR : Rg.R J.S J.T J.U J.H) (h0 : 0 ≤ n) (h1 : n ≤ Rg.fr J.S J.T J.U J.H) :
    Calls Tryz.prog 8 #[.pointer (some ⟨g, 0, none⟩), .int .i64 m] w fun r w' => r = .returned (.int .i64 0) ∧ JTo w F g dg { J with H := J.H + n } xs D w' := by
  obtain ⟨⟨vs, Fd, h, hd, hFg, hrow, hFv, hFd⟩, hFF, hFlt⟩ := hJ
  have b := re2_below w g n
  have h' : Box (re2 w g n) g (jC g dg vs J) 63 := h.below b
  have hbl := fun u => Rc.blocks_at m u
  rw [hm] at hbl
  have ca := ahead_in41 h' hb (fun x w' => x = 0 ∧ re2 w g n = w') #[.pointer (some ⟨w.heap.size + 1, 0, none⟩), .pointer (some ⟨w.heap.size, 0, none⟩)] ((reserve1_at h' n (re2_b w g n) (re2_a w g n)).mono (by
    rintro r w' ⟨rfl, rfl⟩
    rw [if_neg hn0, if_neg hnS]
    exact ⟨0, rfl, rfl, rfl⟩))
  have cr := fun u => Rg.reserve_ok J.S J.T J.U J.H n u hR h0 h1
  unfold Rg.ri at cr
  have HA : Hid (Box (re2 w g n) w.heap.size #[.pointer (some ⟨g, 0, none⟩)] 24) := re2_a w g n
  have HC : Hid (Box (re2 w g n) (w.heap.size + 1) #[.int .i64 n] 3) := re2_b w g n
  have HH : Hid (Box (re2 w g n) g (jC g dg vs J) 63) := h'
  have HB : Hid (Below w.heap.size w (re2 w g n)) := b
  have HD : Hid (Dk.IsDisk w dg D Fd ∧ ¬ Fd g ∧ (∀ k, vs.ownBlock = some k → ¬ Fd k ∧ F k) ∧ (∀ i, Fd i → F i) ∧ F g ∧ (∀ i, F i → i < w.heap.size) ∧ Box w g (jC g dg vs J) 63 ∧ w.ownsRow 0 3 1 vs xs.length (ics xs)) := ⟨hd, hFg, hFv, hFd, hFF, hFlt, h, hrow⟩
  clear h h' hd hFg hrow hFv hFd hFF hFlt b
  go_enter Tryz.func8, Tryz.ntmps8
  go_wp2_with fail
  refine (hbl _).mono ?_
  rintro r w1 ⟨rfl, rfl⟩
  go_wp2_with fail
  refine Calls.mono ca ?_
  rintro r w1 ⟨x, rfl, rfl, rfl⟩
  clear ca hbl
  go_upto_region 5 with fail
  generalize hw2 : re2 w g n = w2 at HH HB HA HC ⊢
  have HS : Hid (∀ u : World, Below w2.heap.size w2 u → u.cell? ⟨w.heap.size, 0, none⟩ = some (.pointer (some ⟨g, 0, none⟩)) ∧ u.cell? ⟨w.heap.size + 1, 0, none⟩ = some (.int .i64 n)) := fun u bu => by
    have y1 := (HA.out.below bu).cell 0
    have y2 := (HC.out.below bu).cell 0
    simp at y1 y2
    exact ⟨y1, y2⟩
  obtain ⟨_, _, _, _, _, _, g6, g7, g8, g9, _, _⟩ := box_cells HH.out
  refine wp_region_noPanic ?_
  refine wp_region_held_drew (S := fun u => u.cell? ⟨w.heap.size, 0, none⟩ = some (.pointer (some ⟨g, 0, none⟩)) ∧ u.cell? ⟨w.heap.size + 1, 0, none⟩ = some (.int .i64 n)) (by kernel_rfl) (HS.out _ (Below.refl _ w2).drew) (fun hHeld => ?_)
  refine wpAnyH_take (i := 0) (v := ?_) rfl (by kernel_rfl) (by kernel_rfl) (by kernel_rfl) (fun _ _ _ h => h) (Or.inl ⟨by rfl, ?_⟩) (by assumption) ?_
  rotate_left
  · intro w hSw
    go_simp
    with_reducible rfl
  simp only [Act.put, List.setIfInBounds_toArray, List.set_cons_zero, List.set_cons_succ, List.getElem_toArray, List.getElem_cons_zero]
  refine wpAnyH_take (i := 1) (v := ?_) rfl (by kernel_rfl) (by kernel_rfl) (by kernel_rfl) (fun _ _ _ h => h) (Or.inl ⟨by rfl, ?_⟩) (by assumption) ?_
  rotate_left
  · intro w hSw
    go_simp
    with_reducible rfl
  simp only [Act.put, List.setIfInBounds_toArray, List.set_cons_zero, List.set_cons_succ, List.getElem_toArray, List.getElem_cons_zero, List.getElem_cons_succ]
  refine wpAnyH_take (i := 2) (v := ?_) rfl (by kernel_rfl) (by kernel_rfl) (by kernel_rfl) (fun _ _ _ h => h) (Or.inl ⟨by rfl, ?_⟩) (by assumption) ?_
  rotate_left
  · intro w hSw
    go_simp
    with_reducible rfl
  simp only [Act.put, List.setIfInBounds_toArray, List.set_cons_zero, List.set_cons_succ, List.getElem_toArray, List.getElem_cons_zero, List.getElem_cons_succ]
  refine wpAnyH_take (i := 3) (v := ?_) rfl (by kernel_rfl) (by kernel_rfl) (by kernel_rfl) (fun _ _ _ h => h) (Or.inl ⟨by rfl, ?_⟩) (by assumption) ?_
  rotate_left
  · intro w hSw
    go_simp
    with_reducible rfl
  simp only [Act.put, List.setIfInBounds_toArray, List.set_cons_zero, List.set_cons_succ, List.getElem_toArray, List.getElem_cons_zero, List.getElem_cons_succ]
  refine wpAnyH_take (i := 5) (v := ?_) rfl (by kernel_rfl) (by kernel_rfl) (by kernel_rfl) (fun _ _ _ h => h) (Or.inl ⟨by rfl, ?_⟩) (by assumption) ?_
  rotate_left
  · intro w hSw
    go_simp
    with_reducible rfl
  simp only [Act.put, List.setIfInBounds_toArray, List.set_cons_zero, List.set_cons_succ, List.getElem_toArray, List.getElem_cons_zero, List.getElem_cons_succ]
  refine wpAnyH_ready (rs := [4]) (by kernel_rfl) (by simp) ?_
  refine AllReadyH.cons rfl (fun K hK => ?_) AllReadyH.nil
  go_simp
  refine hK.out _ _ (HS.out _ (Below.refl _ w2).drew) (fun hHeld => ?_)
  clear hK K
  refine wpAnyH_ready (rs := [6]) (by kernel_rfl) (by simp) ?_
  refine AllReadyH.cons rfl (fun K hK => ?_) AllReadyH.nil
  go_simp
  refine Calls.mono (cr w2.drew) ?_
  rintro r w5 ⟨rfl, b5⟩
  have B5 : Below w2.heap.size w2 w5 := (Below.refl w2.heap.size w2).drew.trans b5
  refine hK.out _ _ (HS.out _ B5) (fun hHeld => ?_)
  clear hK K g6 g7 g8 g9
  refine wpAnyH_take (i := 7) (v := ?_) rfl (by kernel_rfl) (by kernel_rfl) (by kernel_rfl) (fun _ _ _ h => h) (Or.inl ⟨by rfl, ?_⟩) (by assumption) ?_
  rotate_left
  · intro w hSw
    go_simp
    with_reducible rfl
  simp only [Act.put, List.setIfInBounds_toArray, List.set_cons_zero, List.set_cons_succ, List.getElem_toArray, List.getElem_cons_zero, List.getElem_cons_succ]
  refine wpAnyH_take (i := 8) (v := ?_) rfl (by kernel_rfl) (by kernel_rfl) (by kernel_rfl) (fun _ _ _ h => h) (Or.inl ⟨by rfl, ?_⟩) (by assumption) ?_
  rotate_left
  · intro w hSw
    go_simp
    with_reducible rfl
  simp only [Act.put, List.setIfInBounds_toArray, List.set_cons_zero, List.set_cons_succ, List.getElem_toArray, List.getElem_cons_zero, List.getElem_cons_succ]
  refine wpAnyH_ready (rs := [9]) (by kernel_rfl) (by simp) ?_
  refine AllReadyH.cons rfl (fun K hK => ?_) AllReadyH.nil
  go_simp
  refine Calls.mono (turn_ok (HH.out.below B5) J.S J.T J.U (J.H + n)) ?_
  rintro r w6 ⟨rfl, rfl⟩
  obtain ⟨hd, hFg, hFv, hFd, hFF, hFlt, h, hrow⟩ := HD.out
  have fin := ring_end hd hFg hFv hFd hFF hFlt h hrow (HB.out.trans (B5.mono HB.out.size)) (.cells (Rg.ri J.S J.T J.U (J.H + n)) 61) J.S J.T J.U (J.H + n)
  unfold Rg.ri at fin
  have hSS : (((((w5.alloc (.cells #[.int .i64 J.S, .int .i64 J.T, .int .i64 J.U, .int .i64 (J.H + n)] 61)).setCell ⟨g, 6, none⟩ (.int .i64 J.S)).setCell ⟨g, 7, none⟩ (.int .i64 J.T)).setCell ⟨g, 8, none⟩ (.int .i64 J.U)).setCell ⟨g, 9, none⟩ (.int .i64 (J.H + n))).cell? ⟨w.heap.size, 0, none⟩ = some (.pointer (some ⟨g, 0, none⟩)) ∧ (((((w5.alloc (.cells #[.int .i64 J.S, .int .i64 J.T, .int .i64 J.U, .int .i64 (J.H + n)] 61)).setCell ⟨g, 6, none⟩ (.int .i64 J.S)).setCell ⟨g, 7, none⟩ (.int .i64 J.T)).setCell ⟨g, 8, none⟩ (.int .i64 J.U)).setCell ⟨g, 9, none⟩ (.int .i64 (J.H + n))).cell? ⟨w.heap.size + 1, 0, none⟩ = some (.int .i64 n) := by
    obtain ⟨F', hJ', hF', hU⟩ := fin
    have al := (Below.refl w5.heap.size w5).alloc (Nat.le_refl _) (.cells #[.int .i64 J.S, .int .i64 J.T, .int .i64 J.U, .int .i64 (J.H + n)] 61)
    have hset : ∀ k, k ≠ g → k < w2.heap.size → (((((w5.alloc (.cells #[.int .i64 J.S, .int .i64 J.T, .int .i64 J.U, .int .i64 (J.H + n)] 61)).setCell ⟨g, 6, none⟩ (.int .i64 J.S)).setCell ⟨g, 7, none⟩ (.int .i64 J.T)).setCell ⟨g, 8, none⟩ (.int .i64 J.U)).setCell ⟨g, 9, none⟩ (.int .i64 (J.H + n))).heap[k]? = w5.heap[k]? := fun k hk hl => by
      rw [heap_setCell_other _ ⟨g, 9, none⟩ k _ (by simpa using hk), heap_setCell_other _ ⟨g, 8, none⟩ k _ (by simpa using hk), heap_setCell_other _ ⟨g, 7, none⟩ k _ (by simpa using hk), heap_setCell_other _ ⟨g, 6, none⟩ k _ (by simpa using hk)]
      exact al.block k (Nat.lt_of_lt_of_le hl B5.size)
    obtain ⟨s1, s2⟩ := HS.out w5 B5
    exact ⟨(World.cell?_of_block (a := ⟨w.heap.size, 0, none⟩) (hset _ (HA.out.ne HH.out (by decide)) HA.out.lt)).trans s1, (World.cell?_of_block (a := ⟨w.heap.size + 1, 0, none⟩) (hset _ (HC.out.ne HH.out (by decide)) HC.out.lt)).trans s2⟩
  refine hK.out _ _ hSS (fun hHeld => ?_)
  clear hK K hSS
  refine wpAnyH_ready (rs := [10]) (by kernel_rfl) (by simp) ?_
  refine AllReadyH.cons rfl (fun K hK => ?_) AllReadyH.nil
  go_simp
  refine hK.out _ _ hHeld (fun hHeld => ?_)
  clear hK K
  refine wpAnyH_done (by kernel_rfl) ?_ _
  refine NoPanic.normal ?_
  go_wp2_with fail
  go_ret
  exact ⟨rfl, fin⟩

set_option maxRecDepth 100000 in
set_option maxHeartbeats 4000000 in
theorem cancel_full {w : World} {g dg : Nat} {vs : Value} {J : JS} (h : Box w g (jC g dg vs J) 63) (hb : J.broken = false) (m n : Int) (hm : Rc.blocksN m = n) (E : Int) (hE : E ≠ 0) (hn0 : ¬ n = 0) (hr : ¬(Rg.R J.S J.T J.U J.H ∧ 0 ≤ n) ∧ E = 2 ∨ (Rg.R J.S J.T J.U J.H ∧ 0 ≤ n ∧ ¬(n ≤ J.H)) ∧ E = 2) :
    Calls Tryz.prog 12 #[.pointer (some ⟨g, 0, none⟩), .int .i64 m] w fun r w' => r = .returned (.int .i64 E) ∧ Below w.heap.size w w' := by
  have b := re1_below w n
  have h' : Box (re1 w n) g (jC g dg vs J) 63 := h.below b
  have hbl := fun u => Rc.blocks_at m u
  rw [hm] at hbl
  have ca := ahead_in43 h' hb (fun x w' => x = 0 ∧ re1 w n = w') #[.pointer (some ⟨w.heap.size, 0, none⟩)] ((cancel1_at n (re1_b w n)).mono (by
    rintro r w' ⟨rfl, rfl⟩
    rw [if_neg hn0]
    exact ⟨0, rfl, rfl, rfl⟩))
  have cr := fun u => Rg.release_no J.S J.T J.U J.H n E u hr
  unfold Rg.ri at cr
  have HC : Hid (Box (re1 w n) w.heap.size #[.int .i64 n] 3) := re1_b w n
  have HH : Hid (Box (re1 w n) g (jC g dg vs J) 63) := h'
  have HB : Hid (Below w.heap.size w (re1 w n)) := b
  clear h h' b
  go_enter Tryz.func12, Tryz.ntmps12
  go_wp2_with fail
  refine (hbl _).mono ?_
  rintro r w1 ⟨rfl, rfl⟩
  go_wp2_with fail
  refine Calls.mono ca ?_
  rintro r w1 ⟨x, rfl, rfl, rfl⟩
  clear ca hbl
  go_upto_region 5 with fail
  generalize hw2 : re1 w n = w2 at HH HB HC ⊢
  have HS : Hid (∀ u : World, Below w2.heap.size w2 u → u.cell? ⟨w.heap.size, 0, none⟩ = some (.int .i64 n)) := fun u bu => by
    have y2 := (HC.out.below bu).cell 0
    simpa using y2
  obtain ⟨_, _, _, _, _, _, g6, g7, g8, g9, _, _⟩ := box_cells HH.out
  refine wp_region_noPanic ?_
  refine wp_region_held_drew (S := fun u => u.cell? ⟨w.heap.size, 0, none⟩ = some (.int .i64 n)) (by kernel_rfl) (HS.out _ (Below.refl _ w2).drew) (fun hHeld => ?_)
  refine wpAnyH_take (i := 0) (v := ?_) rfl (by kernel_rfl) (by kernel_rfl) (by kernel_rfl) (fun _ _ _ h => h) (Or.inl ⟨by rfl, ?_⟩) (by assumption) ?_
  rotate_left
  · intro w hSw
    go_simp
    with_reducible rfl
  simp only [Act.put, List.setIfInBounds_toArray, List.set_cons_zero, List.set_cons_succ, List.getElem_toArray, List.getElem_cons_zero]
  refine wpAnyH_take (i := 1) (v := ?_) rfl (by kernel_rfl) (by kernel_rfl) (by kernel_rfl) (fun _ _ _ h => h) (Or.inl ⟨by rfl, ?_⟩) (by assumption) ?_
  rotate_left
  · intro w hSw
    go_simp
    with_reducible rfl
  simp only [Act.put, List.setIfInBounds_toArray, List.set_cons_zero, List.set_cons_succ, List.getElem_toArray, List.getElem_cons_zero, List.getElem_cons_succ]
  refine wpAnyH_take (i := 2) (v := ?_) rfl (by kernel_rfl) (by kernel_rfl) (by kernel_rfl) (fun _ _ _ h => h) (Or.inl ⟨by rfl, ?_⟩) (by assumption) ?_
  rotate_left
  · intro w hSw
    go_simp
    with_reducible rfl
  simp only [Act.put, List.setIfInBounds_toArray, List.set_cons_zero, List.set_cons_succ, List.getElem_toArray, List.getElem_cons_zero, List.getElem_cons_succ]
  refine wpAnyH_take (i := 3) (v := ?_) rfl (by kernel_rfl) (by kernel_rfl) (by kernel_rfl) (fun _ _ _ h => h) (Or.inl ⟨by rfl, ?_⟩) (by assumption) ?_
  rotate_left
  · intro w hSw
    go_simp
    with_reducible rfl
  simp only [Act.put, List.setIfInBounds_toArray, List.set_cons_zero, List.set_cons_succ, List.getElem_toArray, List.getElem_cons_zero, List.getElem_cons_succ]
  refine wpAnyH_take (i := 5) (v := ?_) rfl (by kernel_rfl) (by kernel_rfl) (by kernel_rfl) (fun _ _ _ h => h) (Or.inl ⟨by rfl, ?_⟩) (by assumption) ?_
  rotate_left
  · intro w hSw
    go_simp
    with_reducible rfl
  simp only [Act.put, List.setIfInBounds_toArray, List.set_cons_zero, List.set_cons_succ, List.getElem_toArray, List.getElem_cons_zero, List.getElem_cons_succ]
  refine wpAnyH_ready (rs := [4]) (by kernel_rfl) (by simp) ?_
  refine AllReadyH.cons rfl (fun K hK => ?_) AllReadyH.nil
  go_simp
  refine hK.out _ _ (HS.out _ (Below.refl _ w2).drew) (fun hHeld => ?_)
  clear hK K
  refine wpAnyH_ready (rs := [6]) (by kernel_rfl) (by simp) ?_
  refine AllReadyH.cons rfl (fun K hK => ?_) AllReadyH.nil
  go_simp
  refine Calls.mono (cr w2.drew) ?_
  rintro r w5 ⟨rfl, b5⟩
  have B5 : Below w2.heap.size w2 w5 := (Below.refl w2.heap.size w2).drew.trans b5
  refine hK.out _ _ (HS.out _ B5) (fun hHeld => ?_)
  clear hK K g6 g7 g8 g9
  refine wpAnyH_take (i := 7) (v := ?_) rfl (by kernel_rfl) (by kernel_rfl) (by kernel_rfl) (fun _ _ _ h => h) (Or.inl ⟨by rfl, ?_⟩) (by assumption) ?_
  rotate_left
  · intro w hSw
    go_simp
    with_reducible rfl
  simp only [Act.put, List.setIfInBounds_toArray, List.set_cons_zero, List.set_cons_succ, List.getElem_toArray, List.getElem_cons_zero, List.getElem_cons_succ]
  refine wpAnyH_take (i := 8) (v := ?_) rfl (by kernel_rfl) (by kernel_rfl) (by kernel_rfl) (fun _ _ _ h => h) (Or.inl ⟨by rfl, ?_⟩) (by assumption) ?_
  rotate_left
  · intro w hSw
    go_simp
    with_reducible rfl
  simp only [Act.put, List.setIfInBounds_toArray, List.set_cons_zero, List.set_cons_succ, List.getElem_toArray, List.getElem_cons_zero, List.getElem_cons_succ]
  refine wpAnyH_ready (rs := [9]) (by kernel_rfl) (by simp) ?_
  refine AllReadyH.cons rfl (fun K hK => ?_) AllReadyH.nil
  go_simp
  refine Calls.mono (turn_no (.pointer (some ⟨g, 0, none⟩)) 0 0 0 0 E hE) ?_
  rintro r w6 ⟨rfl, b6⟩
  have B6 := B5.trans (b6.mono B5.size)
  have fin := HB.out.trans (B6.mono HB.out.size)
  refine hK.out _ _ (HS.out _ B6) (fun hHeld => ?_)
  clear hK K
  refine wpAnyH_ready (rs := [10]) (by kernel_rfl) (by simp) ?_
  refine AllReadyH.cons rfl (fun K hK => ?_) AllReadyH.nil
  go_simp
  refine hK.out _ _ hHeld (fun hHeld => ?_)
  clear hK K
  refine wpAnyH_done (by kernel_rfl) ?_ _
  refine NoPanic.normal ?_
  go_wp2_with fail
  go_ret
  exact ⟨rfl, fin⟩

set_option maxRecDepth 100000 in
set_option maxHeartbeats 4000000 in
theorem cancel_to {w : World} {g dg : Nat} {xs : List Int} {D : Dk.DS} {F : Nat → Prop} {J : JS} (hJ : JD w g dg J xs D F) (hb : J.broken = false) (m n : Int) (hm : Rc.blocksN m = n) (hn0 : ¬ n = 0) (hR : Rg.R J.S J.T J.U J.H) (h0 : 0 ≤ n) (h1 : n ≤ J.H) :
    Calls Tryz.prog 12 #[.pointer (some ⟨g, 0, none⟩), .int .i64 m] w fun r w' => r = .returned (.int .i64 0) ∧ JTo w F g dg { J with H := J.H - n } xs D w' := by
  obtain ⟨⟨vs, Fd, h, hd, hFg, hrow, hFv, hFd⟩, hFF, hFlt⟩ := hJ
  have b := re1_below w n
  have h' : Box (re1 w n) g (jC g dg vs J) 63 := h.below b
  have hbl := fun u => Rc.blocks_at m u
  rw [hm] at hbl
  have ca := ahead_in43 h' hb (fun x w' => x = 0 ∧ re1 w n = w') #[.pointer (some ⟨w.heap.size, 0, none⟩)] ((cancel1_at n (re1_b w n)).mono (by
    rintro r w' ⟨rfl, rfl⟩
    rw [if_neg hn0]
    exact ⟨0, rfl, rfl, rfl⟩))
  have cr := fun u => Rg.release_ok J.S J.T J.U J.H n u hR h0 h1
  unfold Rg.ri at cr
  have HC : Hid (Box (re1 w n) w.heap.size #[.int .i64 n] 3) := re1_b w n
  have HH : Hid (Box (re1 w n) g (jC g dg vs J) 63) := h'
  have HB : Hid (Below w.heap.size w (re1 w n)) := b
  have HD : Hid (Dk.IsDisk w dg D Fd ∧ ¬ Fd g ∧ (∀ k, vs.ownBlock = some k → ¬ Fd k ∧ F k) ∧ (∀ i, Fd i → F i) ∧ F g ∧ (∀ i, F i → i < w.heap.size) ∧ Box w g (jC g dg vs J) 63 ∧ w.ownsRow 0 3 1 vs xs.length (ics xs)) := ⟨hd, hFg, hFv, hFd, hFF, hFlt, h, hrow⟩
  clear h h' hd hFg hrow hFv hFd hFF hFlt b
  go_enter Tryz.func12, Tryz.ntmps12
  go_wp2_with fail
  refine (hbl _).mono ?_
  rintro r w1 ⟨rfl, rfl⟩
  go_wp2_with fail
  refine Calls.mono ca ?_
  rintro r w1 ⟨x, rfl, rfl, rfl⟩
  clear ca hbl
  go_upto_region 5 with fail
  generalize hw2 : re1 w n = w2 at HH HB HC ⊢
  have HS : Hid (∀ u : World, Below w2.heap.size w2 u → u.cell? ⟨w.heap.size, 0, none⟩ = some (.int .i64 n)) := fun u bu => by
    have y2 := (HC.out.below bu).cell 0
    simpa using y2
  obtain ⟨_, _, _, _, _, _, g6, g7, g8, g9, _, _⟩ := box_cells HH.out
  refine wp_region_noPanic ?_
  refine wp_region_held_drew (S := fun u => u.cell? ⟨w.heap.size, 0, none⟩ = some (.int .i64 n)) (by kernel_rfl) (HS.out _ (Below.refl _ w2).drew) (fun hHeld => ?_)
  refine wpAnyH_take (i := 0) (v := ?_) rfl (by kernel_rfl) (by kernel_rfl) (by kernel_rfl) (fun _ _ _ h => h) (Or.inl ⟨by rfl, ?_⟩) (by assumption) ?_
  rotate_left
  · intro w hSw
    go_simp
    with_reducible rfl
  simp only [Act.put, List.setIfInBounds_toArray, List.set_cons_zero, List.set_cons_succ, List.getElem_toArray, List.getElem_cons_zero]
  refine wpAnyH_take (i := 1) (v := ?_) rfl (by kernel_rfl) (by kernel_rfl) (by kernel_rfl) (fun _ _ _ h => h) (Or.inl ⟨by rfl, ?_⟩) (by assumption) ?_
  rotate_left
  · intro w hSw
    go_simp
    with_reducible rfl
  simp only [Act.put, List.setIfInBounds_toArray, List.set_cons_zero, List.set_cons_succ, List.getElem_toArray, List.getElem_cons_zero, List.getElem_cons_succ]
  refine wpAnyH_take (i := 2) (v := ?_) rfl (by kernel_rfl) (by kernel_rfl) (by kernel_rfl) (fun _ _ _ h => h) (Or.inl ⟨by rfl, ?_⟩) (by assumption) ?_
  rotate_left
  · intro w hSw
    go_simp
    with_reducible rfl
  simp only [Act.put, List.setIfInBounds_toArray, List.set_cons_zero, List.set_cons_succ, List.getElem_toArray, List.getElem_cons_zero, List.getElem_cons_succ]
  refine wpAnyH_take (i := 3) (v := ?_) rfl (by kernel_rfl) (by kernel_rfl) (by kernel_rfl) (fun _ _ _ h => h) (Or.inl ⟨by rfl, ?_⟩) (by assumption) ?_
  rotate_left
  · intro w hSw
    go_simp
    with_reducible rfl
  simp only [Act.put, List.setIfInBounds_toArray, List.set_cons_zero, List.set_cons_succ, List.getElem_toArray, List.getElem_cons_zero, List.getElem_cons_succ]
  refine wpAnyH_take (i := 5) (v := ?_) rfl (by kernel_rfl) (by kernel_rfl) (by kernel_rfl) (fun _ _ _ h => h) (Or.inl ⟨by rfl, ?_⟩) (by assumption) ?_
  rotate_left
  · intro w hSw
    go_simp
    with_reducible rfl
  simp only [Act.put, List.setIfInBounds_toArray, List.set_cons_zero, List.set_cons_succ, List.getElem_toArray, List.getElem_cons_zero, List.getElem_cons_succ]
  refine wpAnyH_ready (rs := [4]) (by kernel_rfl) (by simp) ?_
  refine AllReadyH.cons rfl (fun K hK => ?_) AllReadyH.nil
  go_simp
  refine hK.out _ _ (HS.out _ (Below.refl _ w2).drew) (fun hHeld => ?_)
  clear hK K
  refine wpAnyH_ready (rs := [6]) (by kernel_rfl) (by simp) ?_
  refine AllReadyH.cons rfl (fun K hK => ?_) AllReadyH.nil
  go_simp
  refine Calls.mono (cr w2.drew) ?_
  rintro r w5 ⟨rfl, b5⟩
  have B5 : Below w2.heap.size w2 w5 := (Below.refl w2.heap.size w2).drew.trans b5
  refine hK.out _ _ (HS.out _ B5) (fun hHeld => ?_)
  clear hK K g6 g7 g8 g9
  refine wpAnyH_take (i := 7) (v := ?_) rfl (by kernel_rfl) (by kernel_rfl) (by kernel_rfl) (fun _ _ _ h => h) (Or.inl ⟨by rfl, ?_⟩) (by assumption) ?_
  rotate_left
  · intro w hSw
    go_simp
    with_reducible rfl
  simp only [Act.put, List.setIfInBounds_toArray, List.set_cons_zero, List.set_cons_succ, List.getElem_toArray, List.getElem_cons_zero, List.getElem_cons_succ]
  refine wpAnyH_take (i := 8) (v := ?_) rfl (by kernel_rfl) (by kernel_rfl) (by kernel_rfl) (fun _ _ _ h => h) (Or.inl ⟨by rfl, ?_⟩) (by assumption) ?_
  rotate_left
  · intro w hSw
    go_simp
    with_reducible rfl
  simp only [Act.put, List.setIfInBounds_toArray, List.set_cons_zero, List.set_cons_succ, List.getElem_toArray, List.getElem_cons_zero, List.getElem_cons_succ]
  refine wpAnyH_ready (rs := [9]) (by kernel_rfl) (by simp) ?_
  refine AllReadyH.cons rfl (fun K hK => ?_) AllReadyH.nil
  go_simp
  refine Calls.mono (turn_ok (HH.out.below B5) J.S J.T J.U (J.H - n)) ?_
  rintro r w6 ⟨rfl, rfl⟩
  obtain ⟨hd, hFg, hFv, hFd, hFF, hFlt, h, hrow⟩ := HD.out
  have fin := ring_end hd hFg hFv hFd hFF hFlt h hrow (HB.out.trans (B5.mono HB.out.size)) (.cells (Rg.ri J.S J.T J.U (J.H - n)) 61) J.S J.T J.U (J.H - n)
  unfold Rg.ri at fin
  have hSS : (((((w5.alloc (.cells #[.int .i64 J.S, .int .i64 J.T, .int .i64 J.U, .int .i64 (J.H - n)] 61)).setCell ⟨g, 6, none⟩ (.int .i64 J.S)).setCell ⟨g, 7, none⟩ (.int .i64 J.T)).setCell ⟨g, 8, none⟩ (.int .i64 J.U)).setCell ⟨g, 9, none⟩ (.int .i64 (J.H - n))).cell? ⟨w.heap.size, 0, none⟩ = some (.int .i64 n) := by
    obtain ⟨F', hJ', hF', hU⟩ := fin
    have al := (Below.refl w5.heap.size w5).alloc (Nat.le_refl _) (.cells #[.int .i64 J.S, .int .i64 J.T, .int .i64 J.U, .int .i64 (J.H - n)] 61)
    have hset : ∀ k, k ≠ g → k < w2.heap.size → (((((w5.alloc (.cells #[.int .i64 J.S, .int .i64 J.T, .int .i64 J.U, .int .i64 (J.H - n)] 61)).setCell ⟨g, 6, none⟩ (.int .i64 J.S)).setCell ⟨g, 7, none⟩ (.int .i64 J.T)).setCell ⟨g, 8, none⟩ (.int .i64 J.U)).setCell ⟨g, 9, none⟩ (.int .i64 (J.H - n))).heap[k]? = w5.heap[k]? := fun k hk hl => by
      rw [heap_setCell_other _ ⟨g, 9, none⟩ k _ (by simpa using hk), heap_setCell_other _ ⟨g, 8, none⟩ k _ (by simpa using hk), heap_setCell_other _ ⟨g, 7, none⟩ k _ (by simpa using hk), heap_setCell_other _ ⟨g, 6, none⟩ k _ (by simpa using hk)]
      exact al.block k (Nat.lt_of_lt_of_le hl B5.size)
    exact (World.cell?_of_block (a := ⟨w.heap.size, 0, none⟩) (hset _ (HC.out.ne HH.out (by decide)) HC.out.lt)).trans (HS.out w5 B5)
  refine hK.out _ _ hSS (fun hHeld => ?_)
  clear hK K hSS
  refine wpAnyH_ready (rs := [10]) (by kernel_rfl) (by simp) ?_
  refine AllReadyH.cons rfl (fun K hK => ?_) AllReadyH.nil
  go_simp
  refine hK.out _ _ hHeld (fun hHeld => ?_)
  clear hK K
  refine wpAnyH_done (by kernel_rfl) ?_ _
  refine NoPanic.normal ?_
  go_wp2_with fail
  go_ret
  exact ⟨rfl, fin⟩
end Go.Proofs.YtglahlbponlepaaGreat.J

/-
  A journal of the law's, as its calls see it: where its memory lies is hidden.
-/
namespace Go.Proofs.YtglahlbponlepaaGreat.J
open Go.RowKit
open Go.Proofs.YtglahlbponlepaaGreat.Dk (Box)

/-- a disk of 64 blocks that nothing stops, with writes to these blocks; at most k were done in all -/
def DN (D : Dk.DS) (ps : List Nat) (k : Nat) : Prop := Calm D ∧ D.nb = 64 ∧ D.uf.map (·.1) = ps ∧ D.n ≤ k
theorem DN.len {D : Dk.DS} {ps : List Nat} {k : Nat} (h : DN D ps k) : D.uf.length = ps.length := by
  have := congrArg List.length h.2.2.1
  simpa using this

/-- all that is the journal's own was made behind w -/
def JW (w : World) (g dg : Nat) (J : JS) (xs : List Int) (D : Dk.DS) (u : World) : Prop := ∃ F, JD u g dg J xs D F ∧ (∀ i, F i → w.heap.size ≤ i) ∧ Below w.heap.size w u
def JK (w : World) (g dg : Nat) (J : JS) (xs : List Int) (ps : List Nat) (k : Nat) (u : World) : Prop := ∃ D, DN D ps k ∧ JW w g dg J xs D u

section
variable {w u : World} {g dg : Nat} {J J' : JS} {xs xs' : List Int} {D D' : Dk.DS} {ps ps' : List Nat} {k k' : Nat}
theorem JW.bel (h : JW w g dg J xs D u) : Below w.heap.size w u := by obtain ⟨_, _, _, h⟩ := h; exact h
theorem JK.bel (h : JK w g dg J xs ps k u) : Below w.heap.size w u := by obtain ⟨_, _, h⟩ := h; exact h.bel
theorem JW.below {v : World} (h : JW w g dg J xs D u) (b : Below u.heap.size u v) : JW w g dg J xs D v := by
  obtain ⟨F, h1, h2, h3⟩ := h
  exact ⟨F, h1.below h1.flt b b.size, h2, h3.trans (b.mono h3.size)⟩
theorem JK.below {v : World} (h : JK w g dg J xs ps k u) (b : Below u.heap.size u v) : JK w g dg J xs ps k v := by
  obtain ⟨D, h1, h2⟩ := h
  exact ⟨D, h1, h2.below b⟩
theorem JW.to {v : World} (h : JW w g dg J xs D u) (hc : ∀ F, JD u g dg J xs D F → JTo u F g dg J' xs' D' v) : JW w g dg J' xs' D' v := by
  obtain ⟨F, h1, h2, h3⟩ := h
  obtain ⟨F', j1, j2, j3⟩ := hc F h1
  exact ⟨F', j1, fun i hi => (j2 i hi).elim (h2 i) (Nat.le_trans h3.size), below_upd h3 j3 h2 h3.size⟩
/-- a call that the journal answers, and that turns it -/
theorem JK.turns {f : Nat} {a : Array Value} {v : Value} (h : JK w g dg J xs ps k u) (hc : ∀ F D, DN D ps k → JD u g dg J xs D F → Calls Tryz.prog f a u fun r u' => r = .returned v ∧ ∃ D', DN D' ps' k' ∧ JTo u F g dg J' xs' D' u') :
    Calls Tryz.prog f a u fun r u' => r = .returned v ∧ JK w g dg J' xs' ps' k' u' := by
  obtain ⟨D, hD, F, h1, h2, h3⟩ := h
  refine (hc F D hD h1).mono ?_
  rintro r u' ⟨rfl, D', hD', F', j1, j2, j3⟩
  exact ⟨rfl, D', hD', F', j1, fun i hi => (j2 i hi).elim (h2 i) (Nat.le_trans h3.size), below_upd h3 j3 h2 h3.size⟩
/-- a call that the journal answers, and that leaves it -/
theorem JK.asks {f : Nat} {a : Array Value} {v : Value} (h : JK w g dg J xs ps k u) (hc : ∀ F D, DN D ps k → JD u g dg J xs D F → Calls Tryz.prog f a u fun r u' => r = .returned v ∧ Below u.heap.size u u') :
    Calls Tryz.prog f a u fun r u' => r = .returned v ∧ JK w g dg J xs ps k u' := by
  have h' := h
  obtain ⟨D, hD, F, h1, h2, h3⟩ := h
  refine (hc F D hD h1).mono ?_
  rintro r u' ⟨rfl, b⟩
  exact ⟨rfl, h'.below b⟩
theorem same_below {f : Nat} {a : Array Value} {v : Value} {u : World} (h : Calls Tryz.prog f a u fun r u' => r = .returned v ∧ u = u') : Calls Tryz.prog f a u fun r u' => r = .returned v ∧ Below u.heap.size u u' :=
  h.mono (by rintro r u' ⟨rfl, rfl⟩; exact ⟨rfl, Below.refl _ _⟩)

theorem JK.opened (t : Nat) (T : Int) (w : World) (ht : t ≤ 15) (hT : T = (t : Int)) :
    Calls Tryz.prog 4 #[.int .i64 T] w fun r w' => ∃ dg g, r = .returned (.tuple #[.pointer (some ⟨dg, 0, none⟩), .pointer (some ⟨g, 0, none⟩), .bool true]) ∧ JK w g dg ⟨2, 1, 1, 0, 16, T, 0, 0, false⟩ [] [] 1000 w' := by
  refine (opened_law t T w ht hT).mono ?_
  rintro r w' ⟨dg, g, F, D, rfl, h1, h2, h3, h4⟩
  exact ⟨dg, g, rfl, D, h2, F, h1, h3, h4⟩
theorem JK.append {cap : Nat} {al : Option Addr} (N n : Nat) (h : JK w g dg J xs ps k u) (hI : Rc.Imgs u al (grpL N n)) (h1 : 1 ≤ n) (h2 : n ≤ 32)
    (hJ' : J' = { J with next := J.next + 1, U := J.U + (n + 1 : Nat), H := J.H - 0 }) (hxs : xs' = xs ++ [((n + 1 : Nat) : Int)]) (hps : ps' = ps ++ (List.range (n + 1)).map fun i => 2 + (((J.T + J.U) % J.S).toNat + i) % J.S.toNat) (hk : k' = k + (n + 1))
    (hb : J.broken = false) (hs : Rc.okStamp J.epoch J.next = true) (hR : Rg.R J.S J.T J.U J.H) (hr : ((n + 1 : Nat) : Int) ≤ Rg.fr J.S J.T J.U J.H) (hlog : J.log = 2) (hS : J.S = 16) (hx : xs.length ≤ 1000) (hl : ps.length ≤ 10000) (hkl : k ≤ 10000) :
    Calls Tryz.prog 11 #[.pointer (some ⟨g, 0, none⟩), .slice al n cap, .bool false] u fun r u' => r = .returned (.tuple #[.int .i64 J.next, .int .i64 0]) ∧ JK w g dg J' xs' ps' k' u' := by
  subst hJ' hxs
  refine h.turns fun F D hD hJ => ?_
  have hlen := hD.len
  obtain ⟨d1, d2, d3, d4⟩ := hD
  refine (append_ok (cap := cap) hJ hb (grpL_length N n) hI (grpL_ok _ _ N n h1 h2 hs) hR hr hlog d1 (by omega) (by omega) (by omega) (by omega) hx).mono ?_
  rintro r w' ⟨rfl, h⟩
  refine ⟨rfl, _, ?_, h⟩
  refine ⟨d1, d2, ?_, ?_⟩
  · subst hps
    simp only [grow, List.map_append, d3, wrs, List.map_map]
    rfl
  · subst hps hk
    show D.n + (n + 1) ≤ _
    omega
theorem JK.held {cap : Nat} {al : Option Addr} (N n : Nat) (h : JK w g dg J xs ps k u) (hI : Rc.Imgs u al (grpL N n)) (h1 : 1 ≤ n) (h2 : n ≤ 32)
    (hJ' : J' = { J with next := J.next + 1, U := J.U + (n + 1 : Nat), H := J.H - ((n + 1 : Nat) : Int) }) (hxs : xs' = xs ++ [((n + 1 : Nat) : Int)]) (hps : ps' = ps ++ (List.range (n + 1)).map fun i => 2 + (((J.T + J.U) % J.S).toNat + i) % J.S.toNat) (hk : k' = k + (n + 1))
    (hb : J.broken = false) (hs : Rc.okStamp J.epoch J.next = true) (hR : Rg.R J.S J.T J.U J.H) (hr : ((n + 1 : Nat) : Int) ≤ J.H) (hlog : J.log = 2) (hS : J.S = 16) (hx : xs.length ≤ 1000) (hl : ps.length ≤ 10000) (hkl : k ≤ 10000) :
    Calls Tryz.prog 11 #[.pointer (some ⟨g, 0, none⟩), .slice al n cap, .bool true] u fun r u' => r = .returned (.tuple #[.int .i64 J.next, .int .i64 0]) ∧ JK w g dg J' xs' ps' k' u' := by
  subst hJ' hxs
  refine h.turns fun F D hD hJ => ?_
  have hlen := hD.len
  obtain ⟨d1, d2, d3, d4⟩ := hD
  refine (append_held (cap := cap) hJ hb (grpL_length N n) hI (grpL_ok _ _ N n h1 h2 hs) hR hr hlog d1 (by omega) (by omega) (by omega) (by omega) hx).mono ?_
  rintro r w' ⟨rfl, h⟩
  refine ⟨rfl, _, ?_, h⟩
  refine ⟨d1, d2, ?_, ?_⟩
  · subst hps
    simp only [grow, List.map_append, d3, wrs, List.map_map]
    rfl
  · subst hps hk
    show D.n + (n + 1) ≤ _
    omega
theorem JK.flush (h : JK w g dg J xs ps k u) (hJ' : J' = { J with synced := J.next - 1 }) (hb : J.broken = false) (h1 : 1 ≤ J.next) (h2 : J.next ≤ 549755813889) :
    Calls Tryz.prog 6 #[.pointer (some ⟨g, 0, none⟩)] u fun r u' => r = .returned (.int .i64 0) ∧ JK w g dg J' xs [] k u' := by
  subst hJ'
  refine h.turns fun F D hD hJ => ?_
  refine (flush_to hJ hb hD.1.operE h1 h2).mono ?_
  rintro r w' ⟨rfl, h⟩
  obtain ⟨e, c⟩ := hD.1.flush
  refine ⟨rfl, _, ⟨c, ?_, ?_, ?_⟩, h⟩
  · rw [e]; exact hD.2.1
  · rw [e]; rfl
  · rw [e]; exact hD.2.2.2
theorem JK.release (h : JK w g dg J xs ps k u) (s : Int) (c : Nat) (hJ' : J' = { J with T := (J.T + (xs.take c).sum) % J.S, U := J.U - (xs.take c).sum }) (hxs : xs' = xs.drop c) (hb : J.broken = false) (hs : ¬ J.synced < s) (h0 : 0 < xs.length) (hx : xs.length ≤ 1000) (hr : ∀ x ∈ xs, 0 ≤ x ∧ x ≤ 33)
    (hn0 : (xs.length : Int) ≤ J.next) (hn1 : J.next ≤ 549755813889) (hR : Rg.R J.S J.T J.U J.H) (hc : cntTo (J.next - xs.length) s xs.length = c) (hU : (xs.take c).sum ≤ J.U) :
    Calls Tryz.prog 7 #[.pointer (some ⟨g, 0, none⟩), .int .i64 s] u fun r u' => r = .returned (.int .i64 0) ∧ JK w g dg J' xs' ps k u' := by
  subst hJ' hxs
  refine h.turns fun F D hD hJ => ?_
  refine (release_ok hJ hb s hs h0 hx hr hn0 hn1 hR c hc hU).mono ?_
  rintro r w' ⟨rfl, h⟩
  exact ⟨rfl, _, hD, h⟩
end
end Go.Proofs.YtglahlbponlepaaGreat.J

/-
  The law's line of groups that were appended: in memory, cut from the front and grown.
-/
namespace Go.Proofs.YtglahlbponlepaaGreat.J
open Go.RowKit
open Go.Proofs.YtglahlbponlepaaGreat.Dk (Box)

theorem info34 : (Tryz.prog.info? 34).map (fun i => (i.zero, i.size, i.bytes)) = some (some (.agg #[.int .i64 0, .int .i64 0, .slice none 0 0]), 3, 40) := by kernel_rfl

/-- a group that was appended: its number, its first place, how many images it has, what they were made of, where they lie -/
structure G where
  seq : Nat
  at_ : Nat
  n : Nat
  N : Nat
  al : Option Addr
  cl : Nat
def kC (q : G) : List Value := [.int .i64 (q.seq : Int), .int .i64 (q.at_ : Int), .slice q.al q.n q.cl]
def kept (gs : List G) : List Value := gs.flatMap kC
theorem kept_length (gs : List G) : (kept gs).length = gs.length * 3 := by
  unfold kept
  induction gs with
  | nil => rfl
  | cons q gs ih => simp [kC, ih]; omega
theorem kept_snoc (gs : List G) (q : G) : kept (gs ++ [q]) = kept gs ++ kC q := by simp [kept]
theorem kept_drop (gs : List G) (m : Nat) : kept (gs.drop m) = (kept gs).drop (m * 3) := by
  induction gs generalizing m with
  | nil => simp [kept]
  | cons q gs ih =>
    cases m with
    | zero => simp
    | succ m =>
      have e : kept (q :: gs) = .int .i64 (q.seq : Int) :: .int .i64 (q.at_ : Int) :: .slice q.al q.n q.cl :: kept gs := rfl
      rw [List.drop_succ_cons, ih m, e, show (m + 1) * 3 = m * 3 + 1 + 1 + 1 by omega]
      simp only [List.drop_succ_cons]
theorem kept_at (gs : List G) (i : Nat) (h : i < gs.length) : (kept gs)[i * 3]? = some (.int .i64 (gs[i].seq : Int)) ∧ (kept gs)[i * 3 + 1]? = some (.int .i64 (gs[i].at_ : Int)) ∧ (kept gs)[i * 3 + 2]? = some (.slice gs[i].al gs[i].n gs[i].cl) := by
  induction gs generalizing i with
  | nil => simp at h
  | cons q gs ih =>
    have e : kept (q :: gs) = .int .i64 (q.seq : Int) :: .int .i64 (q.at_ : Int) :: .slice q.al q.n q.cl :: kept gs := rfl
    cases i with
    | zero => exact ⟨rfl, rfl, rfl⟩
    | succ i =>
      obtain ⟨h1, h2, h3⟩ := ih i (by simpa using h)
      rw [e, show (i + 1) * 3 = i * 3 + 1 + 1 + 1 by omega]
      simp only [List.getElem?_cons_succ, List.getElem_cons_succ]
      exact ⟨h1, h2, h3⟩

/-- the line lies in a block of its own, made behind B and none of F; or there is none -/
def Ln (B : Nat) (F : Nat → Prop) (w : World) (v : Value) (gs : List G) : Prop :=
  (v = .slice none 0 0 ∧ gs = []) ∨ ∃ g o cap cur, v = .slice (some ⟨g, o, none⟩) gs.length cap ∧ Box w g cur 34 ∧ gs.length ≤ cap ∧ o + cap * 3 ≤ cur.size ∧ cap ≤ maxLen ∧ B ≤ g ∧ ¬ F g ∧
    ∀ j, j < gs.length * 3 → cur[o + j]? = (kept gs)[j]?
section
variable {B : Nat} {F F' : Nat → Prop} {w w' : World} {v : Value} {gs : List G}
theorem Ln.upd (h : Ln B F w v gs) (u : Dk.Upd F w w') (hF : ∀ i, F' i → F i ∨ w.heap.size ≤ i) : Ln B F' w' v gs := by
  rcases h with h | ⟨g, o, cap, cur, h0, h1, h2, h3, h4, h5, h6, h7⟩
  · exact .inl h
  · exact .inr ⟨g, o, cap, cur, h0, (u.block g h1.lt h6).trans h1, h2, h3, h4, h5, fun hf => (hF g hf).elim h6 (fun h => by have := h1.lt; omega), h7⟩
theorem Ln.below (h : Ln B F w v gs) (b : Below w.heap.size w w') : Ln B F w' v gs := h.upd (upd_below b) (fun _ h => .inl h)
theorem Ln.own (h : Ln B F w v gs) {k : Nat} (hk : v.ownBlock = some k) : ¬ F k ∧ ∃ cur, Box w k cur 34 := by
  rcases h with ⟨rfl, _⟩ | ⟨g, o, cap, cur, rfl, h1, _, _, _, _, h6, _⟩
  · cases hk
  · injection hk with hk
    have e : g = k := hk
    subst e
    exact ⟨h6, cur, h1⟩
theorem Ln.val (h : Ln B F w v gs) : ∃ a c, v = .slice a gs.length c := by
  rcases h with ⟨rfl, rfl⟩ | ⟨g, o, cap, cur, h0, _⟩
  · exact ⟨none, 0, rfl⟩
  · exact ⟨_, cap, h0⟩
/-- one of them -/
theorem Ln.get (h : Ln B F w v gs) {k : Nat} (hk : k < gs.length) : ∃ g o cap, v = .slice (some ⟨g, o, none⟩) gs.length cap ∧ g < w.heap.size ∧ gs.length ≤ cap ∧ cap ≤ maxLen ∧ w.cell? ⟨g, o + k * 3, none⟩ = some (.int .i64 (gs[k].seq : Int)) ∧ w.cell? ⟨g, o + k * 3 + 1, none⟩ = some (.int .i64 (gs[k].at_ : Int)) ∧ w.cell? ⟨g, o + k * 3 + 2, none⟩ = some (.slice gs[k].al gs[k].n gs[k].cl) := by
  rcases h with ⟨_, rfl⟩ | ⟨g, o, cap, cur, h0, h1, h2, h3, h4, h5, h6, h7⟩
  · simp at hk
  · obtain ⟨k0, k1, k2⟩ := kept_at gs k hk
    refine ⟨g, o, cap, h0, h1.lt, h2, h4, ?_, ?_, ?_⟩
    · rw [h1.cell, h7 _ (by omega), k0]
    · rw [h1.cell, Nat.add_assoc, h7 _ (by omega), k1]
    · rw [h1.cell, Nat.add_assoc, h7 _ (by omega), k2]
theorem Ln.cut {g o cap k : Nat} (h : Ln B F w (.slice (some ⟨g, o, none⟩) gs.length cap) gs) (hk : k ≤ gs.length) : Ln B F w (.slice (if cap = k then some ⟨g, o, none⟩ else some ⟨g, o + k * 3, none⟩) (gs.length - k) (cap - k)) (gs.drop k) := by
  rcases h with ⟨h, _⟩ | ⟨g', o', cap', cur, h0, h1, h2, h3, h4, h5, h6, h7⟩
  · cases h
  injection h0 with h0 _ hc
  injection h0 with h0
  injection h0 with e1 e2 _
  subst e1 e2 hc
  by_cases hck : cap = k
  · rw [if_pos hck]
    refine .inr ⟨g, o, cap - k, cur, by rw [List.length_drop], h1, by simp; omega, by omega, by omega, h5, h6, fun j hj => ?_⟩
    simp at hj
    omega
  · rw [if_neg hck]
    refine .inr ⟨g, o + k * 3, cap - k, cur, by rw [List.length_drop], h1, by simp; omega, by omega, by omega, h5, h6, fun j hj => ?_⟩
    simp at hj
    rw [kept_drop, List.getElem?_drop, Nat.add_assoc, h7 (k * 3 + j) (by omega)]
/-- one more -/
theorem Ln.append (h : Ln B F w v gs) (hB : B ≤ w.heap.size) (hFlt : ∀ i, F i → i < w.heap.size) (ty : TypeId) (ga : Nat) (q : G) (hx : Box w ga #[.int .i64 (q.seq : Int), .int .i64 (q.at_ : Int), .slice q.al q.n q.cl] 34) (hn : gs.length ≤ 1000) :
    ∃ v' w', (Builtin.append_ #[28, 28] ty #[v, .slice (some ⟨ga, 0, none⟩) 1 1]).run Tryz.prog w = .ok v' w' ∧ Ln B F w' v' (gs ++ [q]) ∧ Below B w w' ∧ w.heap.size ≤ w'.heap.size ∧ ∀ k, k < w.heap.size → v.ownBlock ≠ some k → w'.heap[k]? = w.heap[k]? := by
  obtain ⟨i0, hi, hz0, hz1, hz2⟩ := info_parts info34
  have hnews : ∀ j u, (kC q)[j]? = some u → w.cell? ((⟨ga, 0, none⟩ : Addr).add j) = some u := by
    intro j u hj
    rw [Addr.add_lit, Nat.zero_add, hx.cell]
    match j, hj with
    | 0, hj => exact hj
    | 1, hj => exact hj
    | 2, hj => exact hj
  have h1c : ∀ u ∈ kC q, u.oneCell' = true := by intro u hu; simp [kC] at hu; rcases hu with rfl | rfl | rfl <;> rfl
  rcases h with ⟨rfl, rfl⟩ | ⟨g, o, cap, cur, rfl, hb, h1, h2, h3, h4, h6, he⟩
  · obtain ⟨v', w', hr, ho, gr, _⟩ := run_append_own (P := Tryz.prog) w w.heap.size 28 ty 34 i0 _ 3 40 Tryz.underlying28 hi hz0 hz1 hz2 rfl (by decide) (.slice none 0 0) 0 [] (World.ownsRow_nil _ _ _ _) ⟨ga, 0, none⟩ 1 1 (kC q) rfl hnews h1c (by unfold maxLen; omega) (by omega) (Nat.le_refl _)
    rcases ho.2 with ⟨_, h0⟩ | ⟨g', cap', cur', rfl, hB', hg', hnc, hcm, hcs, ht⟩
    · omega
    refine ⟨_, _, hr, .inr ⟨g', 0, cap', cur', rfl, hg', hnc, by omega, hcm, by omega, fun hf => by have := hFlt g' hf; omega, fun j hj => ?_⟩, (Below.refl _ _).grown gr hB (fun k e => by cases e), gr.size, fun k hk _ => gr.block k hk (by intro e; cases e)⟩
    have hj3 : j < 3 := by simpa using hj
    have c : cur'[j]? = (cur'.toList.take ((0 + 1) * 3))[j]? := by rw [List.getElem?_take, if_pos (by omega)]; simp
    rw [ht] at c
    rw [Nat.zero_add, c]
    rfl
  by_cases hroom : gs.length + 1 ≤ cap
  · have hr := run_append_room_cells (P := Tryz.prog) w 28 ty 34 i0 Tryz.underlying28 hi g o gs.length cap ⟨ga, 0, none⟩ 1 1 (kC q) (by rw [hz1]; rfl) hnews h1c hroom
      (fun j hj => by
        have hj3 : j < 3 := hj
        rw [hz1, hb.cell]
        have : o + gs.length * 3 + j < cur.size := by omega
        simp [this])
      (fun j hj => hb.frozen _)
    rw [hz1] at hr
    have hb2 := box_setCells (kC q) (o + gs.length * 3) w cur hb
    have hu2 := upd_setCells (g := g) (kC q) (o + gs.length * 3) w w (Dk.Upd.refl _ w)
    refine ⟨_, _, hr, .inr ⟨g, o, cap, _, by rw [List.length_append]; rfl, hb2, by rw [List.length_append]; exact hroom, by rw [setL_size]; exact h2, h3, h4, h6, fun j hj => ?_⟩, ⟨hu2.os, hu2.tape, hu2.output, hu2.size, fun k hk => hu2.block k (by omega) (fun e => by injection e with e; omega)⟩, hu2.size, fun k hk hne => hu2.block k hk (fun e => hne e)⟩
    rw [kept_snoc]
    rw [List.length_append, List.length_singleton] at hj
    by_cases hjn : j < gs.length * 3
    · rw [setL_out _ _ _ _ (by omega), he j hjn, List.getElem?_append_left (by rw [kept_length]; exact hjn)]
    · obtain ⟨i, rfl⟩ : ∃ i, j = gs.length * 3 + i := ⟨j - gs.length * 3, by omega⟩
      have hi3 : i < (kC q).length := by show i < 3; omega
      rw [← Nat.add_assoc, setL_in (kC q) cur (o + gs.length * 3) i (by show o + gs.length * 3 + 3 ≤ _; omega) hi3, List.getElem?_append_right (by rw [kept_length]; omega), kept_length, Nat.add_sub_cancel_left, List.getElem?_eq_getElem hi3]
  · have hlo : ((cur.toList.drop o).take (gs.length * 3)).length = gs.length * 3 := by simp; omega
    obtain ⟨v', w', hr, ho, gr⟩ := run_append_arg_grows (P := Tryz.prog) w 28 ty 34 i0 _ 3 40 Tryz.underlying28 hi hz0 hz1 hz2 rfl (by decide) ⟨g, o, none⟩ gs.length cap ((cur.toList.drop o).take (gs.length * 3)) hlo
      (fun j u hj => by
        rw [List.getElem?_take] at hj
        split at hj
        · rw [List.getElem?_drop] at hj
          rw [Addr.add_lit, hb.cell]
          simpa using hj
        · cases hj) ⟨ga, 0, none⟩ 1 1 (kC q) rfl hnews (by omega) (by unfold maxLen; omega) (by omega)
    rcases ho.2 with ⟨_, h0⟩ | ⟨g', cap', cur', rfl, hBg, hg', hnc, hcm, hcs, ht⟩
    · omega
    refine ⟨_, _, hr, .inr ⟨g', 0, cap', cur', by rw [List.length_append]; rfl, hg', by rw [List.length_append]; exact hnc, by omega, hcm, by omega, fun hf => by have := hFlt g' hf; omega, fun j hj => ?_⟩, (Below.refl _ _).grown gr hB (fun k e => by cases e), gr.size, fun k hk _ => gr.block k hk (by intro e; cases e)⟩
    rw [List.length_append, List.length_singleton] at hj
    have c : cur'[j]? = (cur'.toList.take ((gs.length + 1) * 3))[j]? := by rw [List.getElem?_take, if_pos (by omega)]; simp
    rw [ht] at c
    rw [Nat.zero_add, c, kept_snoc]
    by_cases hjn : j < gs.length * 3
    · rw [List.getElem?_append_left (by rw [hlo]; exact hjn), List.getElem?_append_left (by rw [kept_length]; exact hjn), List.getElem?_take, if_pos hjn, List.getElem?_drop, ← he j hjn]
      simp
    · rw [List.getElem?_append_right (by rw [hlo]; omega), List.getElem?_append_right (by rw [kept_length]; omega), hlo, kept_length]
end
end Go.Proofs.YtglahlbponlepaaGreat.J

/-
  What holds of the law's journal, its disk and its line of groups, all along.
-/
namespace Go.Proofs.YtglahlbponlepaaGreat.J
open Go.RowKit
open Go.Proofs.YtglahlbponlepaaGreat.Dk (Box)

/-- images whose memory is none of F -/
def ImF (F : Nat → Prop) (w : World) (al : Option Addr) (n cl : Nat) (is : List (Int × List UInt8)) : Prop :=
  ∃ qs : List Rc.GG, w.ownsRow 0 73 2 (.slice al n cl) n (Rc.imgC qs) ∧ Rc.GetJ 0 w qs ∧ qs.length = n ∧ qs.map (fun p => (p.b, p.xs)) = is ∧ (∀ k, (Value.slice al n cl).ownBlock = some k → ¬ F k) ∧ ∀ q ∈ qs, ¬ F q.h
section
variable {F F' : Nat → Prop} {w w' : World} {al : Option Addr} {n cl : Nat} {is : List (Int × List UInt8)}
theorem ImF.upd (h : ImF F w al n cl is) (u : Dk.Upd F w w') (hF : ∀ i, F' i → F i ∨ w.heap.size ≤ i) : ImF F' w' al n cl is := by
  obtain ⟨qs, h1, h2, h3, h4, h5, h6⟩ := h
  refine ⟨qs, owns_kept h1 (fun k hk => u.block k (h1.lt k hk).2 (h5 k hk)), ⟨fun p hp => ?_, h2.apart⟩, h3, h4, fun k hk hf => (hF k hf).elim (h5 k hk) (fun h => by have := (h1.lt k hk).2; omega), fun q hq hf => (hF q.h hf).elim (h6 q hq) (fun h => by have := (h2.rows q hq).1.lt; omega)⟩
  obtain ⟨a1, a2⟩ := h2.rows p hp
  exact ⟨a1.same (u.block p.h a1.lt (h6 p hp)), a2⟩
theorem ImF.below (h : ImF F w al n cl is) (b : Below w.heap.size w w') : ImF F w' al n cl is := h.upd (upd_below b) (fun _ h => .inl h)
theorem ImF.imgs (h : ImF F w al n cl is) : Rc.Imgs w al is := by
  obtain ⟨qs, h1, h2, h3, h4, _⟩ := h
  have := Rc.imgs_of h1 h2 h3
  rwa [h4] at this
theorem ImF.kept (h : ImF F w al n cl is) (hk : ∀ k, k < w.heap.size → (∀ cur, ¬ Box w k cur 34) → w'.heap[k]? = w.heap[k]?) : ImF F w' al n cl is := by
  obtain ⟨qs, h1, h2, h3, h4, h5, h6⟩ := h
  refine ⟨qs, owns_kept h1 (fun k hk' => hk k (h1.lt k hk').2 (fun cur hb => ?_)), ⟨fun p hp => ?_, h2.apart⟩, h3, h4, h5, h6⟩
  · obtain ⟨_, cur', hb'⟩ := Rc.owns_block h1 k hk'
    exact hb.ne hb' (by decide) rfl
  · obtain ⟨a1, a2⟩ := h2.rows p hp
    refine ⟨a1.same (hk p.h a1.lt (fun cur hb => ?_)), a2⟩
    obtain ⟨cur', hb', _⟩ := a1
    exact hb.ne hb' (by decide) rfl
end

/-- groups behind one another: their numbers, their first places -/
def Chain : Nat → Nat → List G → Prop
  | _, _, [] => True
  | T, s, q :: r => q.seq = s ∧ q.at_ = T % 16 ∧ (1 ≤ q.n ∧ q.n ≤ 4) ∧ q.N ≤ 2000000 ∧ Chain (T + (q.n + 1)) (s + 1) r
def tot : List G → Nat
  | [] => 0
  | q :: r => (q.n + 1) + tot r
def szs (gs : List G) : List Int := gs.map fun q => ((q.n + 1 : Nat) : Int)
theorem szs_length (gs : List G) : (szs gs).length = gs.length := by simp [szs]
theorem szs_snoc (gs : List G) (q : G) : szs (gs ++ [q]) = szs gs ++ [((q.n + 1 : Nat) : Int)] := by simp [szs]
theorem szs_drop (gs : List G) (m : Nat) : (szs gs).drop m = szs (gs.drop m) := by simp [szs]
theorem tot_snoc (q : G) : ∀ gs : List G, tot (gs ++ [q]) = tot gs + (q.n + 1)
  | [] => by simp [tot]
  | p :: gs => by rw [List.cons_append, tot, tot_snoc q gs, tot]; omega
theorem tot_take : ∀ (gs : List G) (m : Nat), tot (gs.take m) + tot (gs.drop m) = tot gs
  | [], m => by simp [tot]
  | q :: gs, 0 => by simp [tot]
  | q :: gs, m + 1 => by rw [List.take_succ_cons, List.drop_succ_cons, tot, tot, ← tot_take gs m]; omega
theorem szs_sum : ∀ (gs : List G), (szs gs).sum = (tot gs : Int)
  | [] => rfl
  | q :: gs => by
    have := szs_sum gs
    simp only [szs, List.map_cons, List.sum_cons, tot] at this ⊢
    rw [this]
    push_cast
    omega
theorem szs_take (gs : List G) (m : Nat) : (szs gs).take m = szs (gs.take m) := by simp [szs]
theorem chain_congr : ∀ (gs : List G) (T T' s : Nat), T % 16 = T' % 16 → Chain T s gs → Chain T' s gs
  | [], _, _, _, _, _ => trivial
  | q :: gs, T, T', s, h, ⟨h1, h2, h3, h4, h5⟩ => ⟨h1, by omega, h3, h4, chain_congr gs _ _ _ (by omega) h5⟩
theorem chain_snoc (q : G) : ∀ (gs : List G) (T s : Nat), Chain T s gs → q.seq = s + gs.length → q.at_ = (T + tot gs) % 16 → 1 ≤ q.n ∧ q.n ≤ 4 → q.N ≤ 2000000 → Chain T s (gs ++ [q])
  | [], T, s, _, h1, h2, h3, h4 => ⟨by simpa using h1, by simpa [tot] using h2, h3, h4, trivial⟩
  | p :: gs, T, s, ⟨a1, a2, a3, a4, a5⟩, h1, h2, h3, h4 => ⟨a1, a2, a3, a4, chain_snoc q gs _ _ a5 (by simp at h1; omega) (by rw [h2, tot]; congr 1; omega) h3 h4⟩
theorem chain_drop : ∀ (gs : List G) (T s m : Nat), m ≤ gs.length → Chain T s gs → Chain (T + tot (gs.take m)) (s + m) (gs.drop m)
  | gs, T, s, 0, _, h => by simpa [tot] using h
  | [], T, s, m + 1, h, _ => by simp at h
  | q :: gs, T, s, m + 1, h, ⟨_, _, _, _, a5⟩ => by
    have := chain_drop gs _ _ m (by simpa using h) a5
    rw [List.take_succ_cons, List.drop_succ_cons, tot, show T + (q.n + 1 + tot (gs.take m)) = T + (q.n + 1) + tot (gs.take m) by omega, show s + (m + 1) = s + 1 + m by omega]
    exact this
theorem chain_at : ∀ (gs : List G) (T s k : Nat) (h : k < gs.length), Chain T s gs → gs[k].seq = s + k ∧ gs[k].at_ = (T + tot (gs.take k)) % 16 ∧ (1 ≤ gs[k].n ∧ gs[k].n ≤ 4) ∧ gs[k].N ≤ 2000000 ∧ tot (gs.take k) + (gs[k].n + 1) ≤ tot gs
  | [], _, _, _, h, _ => by simp at h
  | q :: gs, T, s, 0, _, ⟨a1, a2, a3, a4, _⟩ => ⟨a1, by simpa [tot] using a2, a3, a4, by simp [tot]⟩
  | q :: gs, T, s, k + 1, h, ⟨_, _, _, _, a5⟩ => by
    obtain ⟨b1, b2, b3, b4, b5⟩ := chain_at gs _ _ k (by simpa using h) a5
    simp only [List.getElem_cons_succ, List.take_succ_cons, tot]
    exact ⟨by omega, by rw [b2]; congr 1; omega, b3, b4, by omega⟩

/-- each group stands in its places, whole -/
def Whl (D : Dk.DS) (gs : List G) : Prop := ∀ q ∈ gs, ∀ b, b ≤ q.n → D.stand (2 + (q.at_ + b) % 16) = (Rc.putL 1 q.seq (grpL q.N q.n)).getD b []
theorem Whl.flush {D : Dk.DS} {gs : List G} (h : Whl D gs) (hc : Calm D) (ok : D.Ok) (hn : D.nb = 64) : Whl D.flush gs := fun q hq b hb => by
  rw [stand_flush hc ok _ (by have := Nat.mod_lt (q.at_ + b) (show 0 < 16 by decide); omega)]
  exact h q hq b hb
theorem Whl.grow {D : Dk.DS} {gs : List G} (h : Whl D gs) {T s : Nat} (hch : Chain T s gs) (q : G) (hq : q.at_ = (T + tot gs) % 16) (hr : tot gs + (q.n + 1) ≤ 16) :
    Whl (grow D 16 q.at_ (Rc.putL 1 q.seq (grpL q.N q.n)) (q.n + 1)) (gs ++ [q]) := fun p hp b hb => by
  rcases List.mem_append.1 hp with hp | hp
  · obtain ⟨k, hk, rfl⟩ := List.getElem_of_mem hp
    obtain ⟨_, c2, _, _, c5⟩ := chain_at gs T s k hk hch
    rw [grow_out]
    · exact h _ (List.getElem_mem hk) b hb
    · intro i hi
      omega
  · obtain rfl : p = q := by simpa using hp
    exact grow_in D p.at_ _ b (p.n + 1) (by omega) (by omega)

/-- the journal's numbers -/
def jN (nx sy T U H : Nat) : JS := ⟨2, 1, (nx : Int), (sy : Int), 16, (T : Int), (U : Int), (H : Int), false⟩
theorem jN_R (nx sy T U H : Nat) (hT : T < 16) (hU : U + H ≤ 16) : Rg.R (jN nx sy T U H).S (jN nx sy T U H).T (jN nx sy T U H).U (jN nx sy T U H).H := by
  show (1 ≤ (16 : Int) ∧ (16 : Int) ≤ 512) ∧ (0 ≤ (T : Int) ∧ (T : Int) ≤ 16 - 1) ∧ (0 ≤ (U : Int) ∧ (U : Int) ≤ 16) ∧ (0 ≤ (H : Int) ∧ (H : Int) ≤ 16 - (U : Int))
  omega
theorem jN_fr (nx sy T U H : Nat) (hT : T < 16) (hU : U + H ≤ 16) : Rg.fr (jN nx sy T U H).S (jN nx sy T U H).T (jN nx sy T U H).U (jN nx sy T U H).H = 16 - (U : Int) - (H : Int) := by
  rw [Rg.fr, if_pos (jN_R nx sy T U H hT hU)]
  rfl

/-- all of it -/
structure St (w : World) (g dg i : Nat) (nx sy T H : Nat) (gs : List G) (v9 : Value) (u : World) : Prop where
  ex : ∃ D F, JD u g dg (jN nx sy T (tot gs) H) (szs gs) D F ∧ Calm D ∧ D.nb = 64 ∧ D.Ok ∧ D.uf.length ≤ 5 * i ∧ D.n ≤ 1000 + 5 * i ∧ Whl D gs ∧ Ln w.heap.size F u v9 gs ∧ (∀ q ∈ gs, ImF F u q.al q.n q.cl (grpL q.N q.n)) ∧ (∀ k, F k → w.heap.size ≤ k)
  bel : Below w.heap.size w u
  T16 : T < 16
  room : tot gs + H ≤ 16
  chain : Chain T (nx - gs.length) gs
  nlen : gs.length + 1 ≤ nx
  nxi : nx ≤ i + 1
end Go.Proofs.YtglahlbponlepaaGreat.J

/-
  The library's walk through a list of writes, from its end.
-/
namespace Go.Proofs.YtglahlbponlepaaGreat.Dk
open Go.RowKit Go.Shelf
attribute [local go_sem] Oper.semAt_some

abbrev Wr := Nat × (Nat × Nat × Nat)
def encW (x : Wr) : Array Value := #[.int .i64 (x.1 : Int), .agg #[.int .i64 (x.2.1 : Int), .slice (some ⟨x.2.2.1, 0, none⟩) 4096 x.2.2.2]]
/-- what comes in round j -/
def comes (ps : List (Nat × Nat × Nat)) (j : Nat) : Wr := (ps.length - 1 - j, ps[ps.length - 1 - j]?.getD (0, 0, 0))
/-- what has come behind k rounds -/
def downs (ps : List (Nat × Nat × Nat)) (k : Nat) : List Wr := (List.range k).map (comes ps)
theorem downs_succ (ps : List (Nat × Nat × Nat)) (k : Nat) : downs ps (k + 1) = downs ps k ++ [comes ps k] := by simp [downs, List.range_succ]
theorem downs_length (ps : List (Nat × Nat × Nat)) (k : Nat) : (downs ps k).length = k := by simp [downs]

set_option maxRecDepth 100000 in
set_option maxHeartbeats 2000000 in
theorem back1_in (n : Nat) (hn : 1 ≤ n) (l Bs n₀ b len cap : Nat) (ps : List (Nat × Nat × Nat)) (hlen : ps.length = len) (hmax : len ≤ 1000000) (hb : b < n₀) (J Jx : List Wr → World → Prop)
    (hY : ∀ pre x W, J pre W → pre.length < len → YieldAt Fence.wide (n - 1) Tryz.prog l (encW x) W fun e W' =>
      (e = .returned (.bool true) ∧ J (pre ++ [x]) W' ∧ Below n₀ W W') ∨ (e = .returned (.bool false) ∧ Jx (pre ++ [x]) W'))
    (W : World) (hBs : W.cell? ⟨Bs, 0, none⟩ = some (.slice (some ⟨b, 0, none⟩) len cap)) (hBn : Bs < n₀)
    (hc : ∀ j (h : j < ps.length), W.cell? ⟨b, 0 + j * 2, none⟩ = some (.int .i64 (ps[j].1 : Int)) ∧ W.cell? ⟨b, 0 + j * 2 + 1, none⟩ = some (.slice (some ⟨ps[j].2.1, 0, none⟩) 4096 ps[j].2.2)) (h0 : J [] W) :
    CallsIn Fence.wide n Tryz.prog 94 #[.func (.yield l) #[] #[], .pointer (some ⟨Bs, 0, none⟩)] W fun e W' => (∃ v, e = .returned v) ∧
      ((∃ ys, ys = downs ps len ∧ J ys W') ∨ (∃ pre, (∃ k, k ≤ len ∧ pre = downs ps k) ∧ Jx pre W')) := by
  have Hlen : Hid _ := hlen
  have Hc : Hid _ := hc
  clear hlen hc
  refine callsIn_of_wp Tryz.func94 rfl trivial ?_ rfl
  simp only [Tryz.ntmps94, List.size_toArray, List.length_cons, List.length_nil, Nat.reduceAdd, Nat.reduceSub, Array.replicate_succ, Array.replicate_zero, List.push_toArray, List.append_toArray, List.nil_append, List.cons_append]
  gi_wp2
  gi_loopw [3] (fun i wr => ∃ k : Nat, k ≤ len ∧ i = .int .i64 ((len : Int) - 1 - (k : Int)) ∧ J (downs ps k) wr ∧ Below n₀ W wr)
    (fun i _ => (intOf i + 1).toNat)
  case atStart => exact ⟨0, Nat.zero_le _, by simp, h0, Below.refl _ _⟩
  case round =>
    obtain ⟨k, hk, rfl, hJs, hnx⟩ := hrel
    have hBs' := (hnx.cell (p := ⟨Bs, 0, none⟩) hBn).trans hBs
    by_cases hlt : k < len
    · obtain ⟨j, hj⟩ : ∃ j : Nat, j = len - 1 - k := ⟨_, rfl⟩
      have hji : (len : Int) - 1 - (k : Int) = (j : Int) := by omega
      have hjl : j < ps.length := by rw [Hlen.out]; omega
      obtain ⟨a0, a1⟩ := Hc.out j hjl
      have hcm : comes ps k = (j, ps[j]) := by
        unfold comes
        rw [Hlen.out, ← hj, List.getElem?_eq_getElem hjl]
        rfl
      obtain ⟨fn, tmps, assign, body, hy, hR⟩ := hY _ (comes ps k) wr hJs (by rw [downs_length]; exact hlt)
      rw [hcm] at hy
      dsimp only [encW] at hy
      have b0 := (hnx.cell (p := ⟨b, 0 + j * 2, none⟩) hb).trans a0
      have b1 := (hnx.cell (p := ⟨b, 0 + j * 2 + 1, none⟩) hb).trans a1
      simp only [Nat.zero_add] at b0 b1
      have hjn : (j : Int) < len := by omega
      rw [hji]
      generalize (ps[j]'hjl) = p at hy b0 b1 hcm
      obtain ⟨pb, pg, pc⟩ := p
      dsimp only at hy b0 b1
      have Hcm : Hid _ := hcm
      have Hji : Hid _ := hji
      have Hj : Hid _ := hj
      clear a0 a1 hcm hji hj
      gi_wp2
      refine hR.mono ?_
      rintro e W3 (⟨rfl, hJ3, hk3⟩ | ⟨rfl, hJx3⟩)
      · gi_wp2
        go_roundw
        case rel => exact ⟨k + 1, by omega, by congr 1; have := Hji.out; omega, by rw [downs_succ]; exact hJ3, hnx.trans hk3⟩
        case measure => simp [intOf]
      · gi_wp2
        refine bodyPost_ret (results_none rfl _ _ _) rfl ?_
        exact ⟨⟨_, rfl⟩, .inr ⟨_, ⟨k + 1, by omega, (downs_succ _ _).symm⟩, hJx3⟩⟩
    · obtain rfl : k = len := by omega
      have e1 : (k : Int) - 1 - (k : Int) = -1 := by omega
      rw [e1]
      gi_wp2
      go_end0
      exact ⟨⟨_, rfl⟩, .inl ⟨_, rfl, hJs⟩⟩

set_option maxRecDepth 100000 in
set_option maxHeartbeats 1000000 in
/-- .. of no writes: no round. -/
theorem back1_nil_in (n : Nat) (l Bs cap : Nat) (a : Option Addr) (J : List Wr → World → Prop) (W : World) (hBs : W.cell? ⟨Bs, 0, none⟩ = some (.slice a 0 cap)) (h0 : J [] W) :
    CallsIn Fence.wide n Tryz.prog 94 #[.func (.yield l) #[] #[], .pointer (some ⟨Bs, 0, none⟩)] W fun e W' => (∃ v, e = .returned v) ∧ J [] W' := by
  refine callsIn_of_wp Tryz.func94 rfl trivial ?_ rfl
  simp only [Tryz.ntmps94, List.size_toArray, List.length_cons, List.length_nil, Nat.reduceAdd, Nat.reduceSub, Array.replicate_succ, Array.replicate_zero, List.push_toArray, List.append_toArray, List.nil_append, List.cons_append]
  gi_wp2
  gi_loopw [3] (fun i wr => i = .int .i64 (-1) ∧ J [] wr) (fun _ _ => 0)
  case atStart => exact ⟨rfl, h0⟩
  case round =>
    obtain ⟨rfl, hJs⟩ := hrel
    gi_wp2
    go_end0
    exact ⟨⟨_, rfl⟩, hJs⟩

set_option maxHeartbeats 1000000 in
/-- slices.Backward: the list is boxed; the function captures the box. -/
theorem back_in (n : Nat) (a : Option Addr) (len cap : Nat) (w : World) :
    CallsIn Fence.wide n Tryz.prog 76 #[.slice a len cap] w fun e w' => e = .returned (.func (.func 94) #[] #[.pointer (some ⟨w.heap.size, 0, none⟩)]) ∧ w' = w.alloc (.cells #[.slice a len cap] 84) := by
  refine callsIn_of_wp Tryz.func76 rfl trivial ?_ rfl
  simp only [Tryz.ntmps76, List.size_toArray, List.length_cons, List.length_nil, Nat.reduceAdd, Nat.reduceSub, Array.replicate_succ, Array.replicate_zero, List.push_toArray, List.append_toArray, List.nil_append, List.cons_append]
  gi_wp2
  go_ret
  exact ⟨rfl, rfl⟩

/-- The writes ps lie where v says, below n₀. -/
def Wrs (n₀ : Nat) (w : World) (v : Value) (ps : List (Nat × Nat × Nat)) : Prop :=
  (∃ a cap, v = .slice a 0 cap ∧ ps = []) ∨ ∃ b cap, v = .slice (some ⟨b, 0, none⟩) ps.length cap ∧ b < n₀ ∧ ∀ j (h : j < ps.length), w.cell? ⟨b, 0 + j * 2, none⟩ = some (.int .i64 (ps[j].1 : Int)) ∧ w.cell? ⟨b, 0 + j * 2 + 1, none⟩ = some (.slice (some ⟨ps[j].2.1, 0, none⟩) 4096 ps[j].2.2)
theorem Wrs.below {n₀ : Nat} {A B : World} {v : Value} {ps : List (Nat × Nat × Nat)} (hb : Below n₀ A B) (h : Wrs n₀ A v ps) : Wrs n₀ B v ps := by
  rcases h with h | ⟨b, cap, hv, hlt, hc⟩
  · exact .inl h
  · refine .inr ⟨b, cap, hv, hlt, fun j hj => ?_⟩
    obtain ⟨h0, h1⟩ := hc j hj
    exact ⟨(hb.cell (p := ⟨b, 0 + j * 2, none⟩) hlt).trans h0, (hb.cell (p := ⟨b, 0 + j * 2 + 1, none⟩) hlt).trans h1⟩

theorem back_stops (n : Nat) (hn : 1 ≤ n) (Bs n₀ : Nat) (v : Value) (ps : List (Nat × Nat × Nat)) (hmax : ps.length ≤ 1000000) (w : World) (hBs : Bs < n₀) (hn₀ : n₀ ≤ w.heap.size) (hc : w.cell? ⟨Bs, 0, none⟩ = some v) (hI : Wrs n₀ w v ps) :
    SeqStopsK Fence.wide n Tryz.prog 94 #[.pointer (some ⟨Bs, 0, none⟩)] encW (Below n₀) (fun ys => ys = downs ps ps.length) (fun pre => ∃ k, k ≤ ps.length ∧ pre = downs ps k) ps.length w := fun l J Jx W hW _ _ hY h0 => by
  have hc' := (hW.cell (p := ⟨Bs, 0, none⟩) (Nat.lt_of_lt_of_le hBs hn₀)).trans hc
  rcases hI.below (hW.mono hn₀) with ⟨a, cap, rfl, rfl⟩ | ⟨b, cap, rfl, hb, hcs⟩
  · exact (back1_nil_in n l Bs cap a J W hc' h0).mono fun e W' ⟨he, hj⟩ => ⟨he, .inl ⟨_, rfl, hj⟩⟩
  · exact back1_in n hn l Bs n₀ b ps.length cap ps rfl hmax hb J Jx hY W hc' hBs hcs h0
end Go.Proofs.YtglahlbponlepaaGreat.Dk

/-
  Copy.
-/
namespace Go.Proofs.YtglahlbponlepaaGreat.Dk
open Go.RowKit

theorem Lies.shape {w : World} {g : Nat} {D : DS} {F : Nat → Prop} {gd cd : Nat} {vu : Value} {ps : List (Nat × Nat × Nat)} (h : Lies w g D F gd cd vu ps) : ∃ av cu, vu = .slice av D.uf.length cu := by
  have hrow := h.row
  rcases hrow.2 with ⟨h1, h2⟩ | ⟨gv, cu, cur, hv, _⟩
  · exact ⟨none, 0, by rw [h1, h2]⟩
  · exact ⟨some ⟨gv, 0, none⟩, cu, hv⟩

end Go.Proofs.YtglahlbponlepaaGreat.Dk

/-
  standing, Read.
-/
namespace Go.Proofs.YtglahlbponlepaaGreat.Dk
open Go.RowKit Go.Shelf
attribute [local go_sem] Oper.semAt_some

theorem Lies.wrs {w : World} {g : Nat} {D : DS} {F : Nat → Prop} {gd cd : Nat} {vu : Value} {ps : List (Nat × Nat × Nat)} (h : Lies w g D F gd cd vu ps) (n₀ : Nat) (hn : w.heap.size ≤ n₀) : Wrs n₀ w vu ps := by
  by_cases h0 : 0 < D.uf.length
  · obtain ⟨gv, cu, cur, rfl, _, _, hbv, hc⟩ := h.writes h0
    refine .inr ⟨gv, cu, by rw [h.len], Nat.lt_of_lt_of_le hbv.lt hn, fun j hj => ?_⟩
    have hj' : j < D.uf.length := by rw [← h.len]; exact hj
    obtain ⟨a, b⟩ := hc j hj' hj
    obtain ⟨e, _⟩ := h.each j hj hj'
    exact ⟨by rw [e]; exact a, b⟩
  · obtain ⟨av, cu, rfl⟩ := h.shape
    have e : D.uf.length = 0 := by omega
    exact .inl ⟨av, cu, by rw [e], List.eq_nil_of_length_eq_zero (by rw [h.len, e])⟩

/-- the last write of block nn, met from the end -/
theorem lastOf_met {D : DS} {ps : List (Nat × Nat × Nat)} (nn : Nat) (hl : ps.length = D.uf.length) (he : ∀ k (h : k < ps.length) (h' : k < D.uf.length), ps[k].1 = D.uf[k].1) (k : Nat) (hk : k ≤ ps.length) (hno : ∀ p ∈ downs ps k, p.2.1 ≠ nn) : lastOf D.uf nn D.uf.length = lastOf D.uf nn (D.uf.length - k) := by
  induction k with
  | zero => rfl
  | succ k ih =>
    have h1 := ih (by omega) (fun p hp => hno p (by rw [downs_succ]; exact List.mem_append_left _ hp))
    rw [h1]
    obtain ⟨m, hm⟩ : ∃ m, D.uf.length - k = m + 1 := ⟨D.uf.length - k - 1, by omega⟩
    have hm' : D.uf.length - (k + 1) = m := by omega
    have hlt : m < D.uf.length := by omega
    have hltp : m < ps.length := by omega
    rw [hm, hm', lastOf_succ D.uf nn m hlt]
    have h2 := hno (comes ps k) (by rw [downs_succ]; simp)
    have e1 : comes ps k = (m, ps[m]) := by
      unfold comes
      have : ps.length - 1 - k = m := by omega
      rw [this, List.getElem?_eq_getElem hltp]
      rfl
    rw [e1] at h2
    rw [if_neg (by rw [← he m hltp hlt]; exact h2)]

set_option maxRecDepth 100000 in
set_option maxHeartbeats 2000000 in
theorem standing_at {g : Nat} {w : World} {D : DS} {F : Nat → Prop} {gd cd : Nat} {vu : Value} {ps : List (Nat × Nat × Nat)} (h : Lies w g D F gd cd vu ps) (nn : Nat) (hn : nn < D.nb) (hlim : D.uf.length ≤ 1000000) :
    Calls Tryz.prog 43 #[.pointer (some ⟨g, 0, none⟩), .int .i64 (nn : Int)] w fun e w' => (∃ b o cap, e = .returned (.slice (some ⟨b, o, none⟩) 4096 cap) ∧ Rd w (some ⟨b, o, none⟩) (D.stand nn)) ∧ Below w.heap.size w w' := by
  refine (callsIn_wide (n := 3)).1 ?_
  obtain ⟨_, c1, c2, _⟩ := box_cells h.box
  have hglt := h.box.lt
  obtain ⟨av, cu, rfl⟩ := h.shape
  have B0 := ((Below.refl w.heap.size w).alloc (Nat.le_refl _) (.cells #[.int .i64 (nn : Int)] 3)).alloc (by simp) (.cells #[.slice none 0 0] 40)
  have k2 := (B0.cell (p := ⟨g, 2, none⟩) hglt).trans c2
  have hstand : Hid (D.stand nn = (lastOf D.uf nn D.uf.length).getD (blk D.dur nn)) := rfl
  have hmet : Hid _ := @lastOf_met D ps nn h.len (fun k h1 h2 => (h.each k h1 h2).1)
  have hdur : Hid (Rd w (some ⟨gd, 0 + nn * 4096, none⟩) (blk D.dur nn)) := h.dur.rd.part (nn * 4096) 4096
  have hcd : D.nb * 4096 ≤ cd ∧ cd ≤ 9223372036854775807 := by
    obtain ⟨_, _, q1, q2, _⟩ := h.dur
    rw [h.ok.len] at q1
    unfold maxLen at q2
    omega
  have hhi := h.ok.hi
  generalize D.stand nn = ST at hstand ⊢
  refine callsIn_of_wp_marks Tryz.func43 rfl trivial ?_ rfl
  simp only [Tryz.ntmps43, List.size_toArray, List.length_cons, List.length_nil, Nat.reduceAdd, Nat.reduceSub, Array.replicate_succ, Array.replicate_zero, List.push_toArray, List.append_toArray, List.nil_append, List.cons_append]
  gi_wp2_with fail
  refine ⟨trivial, ?_⟩
  refine (back_in 2 _ _ _ _).mono ?_
  rintro e w' ⟨rfl, rfl⟩
  gi_wp2_with fail
  have bN := (Box.new w #[.int .i64 (nn : Int)] 3)
  have bR := Box.new (w.alloc (.cells #[.int .i64 (nn : Int)] 3)) #[.slice none 0 0] 40
  have bS := Box.new ((w.alloc (.cells #[.int .i64 (nn : Int)] 3)).alloc (.cells #[.slice none 0 0] 40)) #[.slice av D.uf.length cu] 84
  have s1 : (w.alloc (.cells #[.int .i64 (nn : Int)] 3)).heap.size = w.heap.size + 1 := by simp
  have s2 : ((w.alloc (.cells #[.int .i64 (nn : Int)] 3)).alloc (.cells #[.slice none 0 0] 40)).heap.size = w.heap.size + 2 := by simp
  rw [s1] at bR
  rw [s2] at bS
  have B1 := B0.alloc B0.size (.cells #[.slice av D.uf.length cu] 84)
  have bN2 := (bN.alloc (.cells #[.slice none 0 0] 40)).alloc (.cells #[.slice av D.uf.length cu] 84)
  have bR2 := bR.alloc (.cells #[.slice av D.uf.length cu] 84)
  obtain ⟨W0, hW0⟩ : ∃ W, W = ((w.alloc (.cells #[.int .i64 (nn : Int)] 3)).alloc (.cells #[.slice none 0 0] 40)).alloc (.cells #[.slice av D.uf.length cu] 84) := ⟨_, rfl⟩
  have s3 : W0.heap.size = w.heap.size + 3 := by rw [hW0]; simp
  have hs3 : w.heap.size + 3 ≤ W0.heap.size := by omega
  rw [← hW0] at bN2 bR2 bS B1 ⊢
  clear bN bR s1 s2 B0 hW0 k2
  have hwr := (h.wrs (w.heap.size + 3) (by omega))
  have hwr0 : Wrs (w.heap.size + 3) W0 (.slice av D.uf.length cu) ps := by
    rcases h.wrs w.heap.size (Nat.le_refl _) with q | ⟨b, cap, hv, hlt, hc⟩
    · exact .inl q
    · exact .inr ⟨b, cap, hv, by omega, fun j hj => by
        obtain ⟨q0, q1⟩ := hc j hj
        exact ⟨(B1.cell (p := ⟨b, 0 + j * 2, none⟩) hlt).trans q0, (B1.cell (p := ⟨b, 0 + j * 2 + 1, none⟩) hlt).trans q1⟩⟩
  clear hwr
  refine wpIn_rangeFunc_ownH (α := Wr) rfl (by omega) (gf := 94) (lb := #[.pointer (some ⟨w.heap.size + 2, 0, none⟩)]) rfl trivial (enters_of Tryz.func94 (by kernel_rfl) rfl)
    (back_stops (3 - 1) (by omega) (w.heap.size + 2) (w.heap.size + 3) _ ps (by rw [h.len]; exact hlim) W0 (by omega) hs3 (bS.cell 0) hwr0) belowK_t (belowK_b (by omega)) (Below.refl _ _) (fun _ => rfl)
    (fun pre W => ((∀ p ∈ pre, p.2.1 ≠ nn) ∧ W.cell? ⟨w.heap.size, 0, none⟩ = some (.int .i64 (nn : Int)) ∧ W.cell? ⟨w.heap.size + 1, 0, none⟩ = some (.slice none 0 0) ∧ W.frozen? ⟨w.heap.size + 1, 0, none⟩ = false ∧ w.heap.size + 3 ≤ W.heap.size) ∧ Below w.heap.size w W)
    (fun c pre W => (c = .ret ∧ ∃ ini last, pre = ini ++ [last] ∧ (∀ p ∈ ini, p.2.1 ≠ nn) ∧ last.2.1 = nn ∧ W.cell? ⟨w.heap.size + 1, 0, none⟩ = some (.slice (some ⟨last.2.2.1, 0, none⟩) 4096 last.2.2.2)) ∧ Below w.heap.size w W)
    (OwnFrom.and (Own.from (fun s A B row hs hg hr => ⟨hs.1, cell_kept hs.2.1 hg hr, cell_kept hs.2.2.1 hg hr, (frozen_kept hs.2.2.1 hg hr).trans hs.2.2.2.1, Nat.le_trans hs.2.2.2.2 hg.size⟩) _) (ownFrom_below (Nat.le_refl _) (by omega)))
    (fun c => OwnFrom.and (Own.from (fun s A B row hs hg hr => by obtain ⟨hc, ini, last, e1, e2, e3, e4⟩ := hs; exact ⟨hc, ini, last, e1, e2, e3, cell_kept e4 hg hr⟩) _) (ownFrom_below (Nat.le_refl _) (by omega)))
    ⟨⟨by simp, bN2.cell 0, bR2.cell 0, bR2.frozen 0, hs3⟩, B1⟩
    (fun x a' W => ∃ Bx, W.cell? ⟨Bx, 0, none⟩ = some (.int .i64 (x.2.1 : Int)) ∧ W.cell? ⟨Bx, 1, none⟩ = some (.slice (some ⟨x.2.2.1, 0, none⟩) 4096 x.2.2.2) ∧ a' = { tmps := #[.pointer (some ⟨g, 0, none⟩), .int .i64 (nn : Int), undef, .pointer (some ⟨w.heap.size, 0, none⟩), .pointer (some ⟨w.heap.size + 1, 0, none⟩), undef, .pointer (some ⟨Bx, 0, none⟩), .pointer (some ⟨g, 0, none⟩), .pointer (some ⟨g, 0, none⟩), .pointer (some ⟨g, 2, none⟩), .slice av D.uf.length cu, .func (.func 94) #[] #[.pointer (some ⟨w.heap.size + 2, 0, none⟩)], .int .i64 (x.1 : Int), (.agg #[.int .i64 (x.2.1 : Int), .slice (some ⟨x.2.2.1, 0, none⟩) 4096 x.2.2.2]), undef, undef, undef, undef, undef, undef, undef, undef, undef, undef, undef, undef], defers := [] })
    (fun x a' => Own.from (fun s A B row hs hg hr => by obtain ⟨Bx, e1, e2, e3⟩ := hs; exact ⟨Bx, cell_kept e1 hg hr, cell_kept e2 hg hr, e3⟩) _) ?assign ?body ?done ?stop
  case assign =>
    rintro l pre x W K ⟨⟨hp, hcn, hcr, hfr, hsz⟩, hB⟩ hK
    dsimp only [encW]
    have bAl := (Below.refl W.heap.size W).alloc (Nat.le_refl _) (.cells #[.int .i64 (x.2.1 : Int), .slice (some ⟨x.2.2.1, 0, none⟩) 4096 x.2.2.2] 120)
    gi_wp2
    refine hK _ _ ((KeepsOthers.alloc _ _).from _) ((Below.refl _ W).alloc hsz _) ⟨⟨hp, (bAl.cell (p := ⟨w.heap.size, 0, none⟩) (by show w.heap.size < _; omega)).trans hcn, (bAl.cell (p := ⟨w.heap.size + 1, 0, none⟩) (by show w.heap.size + 1 < _; omega)).trans hcr, (bAl.frozen (p := ⟨w.heap.size + 1, 0, none⟩) (by show w.heap.size + 1 < _; omega)).trans hfr, by simp; omega⟩, hB.alloc hB.size _⟩ ⟨W.heap.size, ?_, ?_, rfl⟩
    · exact (Box.new W #[.int .i64 (x.2.1 : Int), .slice (some ⟨x.2.2.1, 0, none⟩) 4096 x.2.2.2] 120).cell 0
    · exact (Box.new W #[.int .i64 (x.2.1 : Int), .slice (some ⟨x.2.2.1, 0, none⟩) 4096 x.2.2.2] 120).cell 1
  case body =>
    rintro l pre x a' W hl ⟨r, hr⟩ ⟨⟨hp, hcn, hcr, hfr, hsz⟩, hB⟩ ⟨Bx, e1, e2, rfl⟩ hlt
    by_cases hx : x.2.1 = nn
    · have hx' : ((x.2.1 : Int) == (nn : Int)) = true := by rw [hx]; simp
      gi_wp2
      exact ⟨(KeepsOthers.setCell _ _ _).from _, ⟨rfl, pre, x, rfl, hp, hx, World.cell?_setCell_same' _ _ _ (by rw [hcr]; rfl)⟩, hB.setCell (p := ⟨w.heap.size + 1, 0, none⟩) (by simp) _⟩
    · have hx' : ((x.2.1 : Int) == (nn : Int)) = false := by simp; omega
      gi_wp2
      exact ⟨KeepsFrom.refl _ _, Below.refl _ _, ⟨fun p hp' => (List.mem_append.1 hp').elim (hp p) (fun e => by simp at e; subst e; exact hx), hcn, hcr, hfr, hsz⟩, hB⟩
  case done =>
    rintro D' ys W hD rfl ⟨⟨hne, hcn, hcr, hfr, hsz⟩, hB⟩ hK
    have hST : Hid (ST = blk D.dur nn) := by
      have h1 := hmet.out ps.length (Nat.le_refl _) hne
      rw [h.len, Nat.sub_self] at h1
      show _ = _
      rw [hstand.out, h1]
      rfl
    have d1 := (hB.cell (p := ⟨g, 1, none⟩) hglt).trans c1
    gi_wp2_with fail
    refine wpIn_wide.2 ?_
    refine wp_region_any (by kernel_rfl) ?_
    change wpAny _ _ _ _ _ _ _ (World.drew _)
    refine wpAny_of_class (C := fun _ _ => True) _ _ _ _ ?_
    have d1d : W.drew.cell? ⟨g, 1, none⟩ = some (.slice (some ⟨gd, 0, none⟩) (D.nb * 4096) cd) := d1
    have hcnd : W.drew.cell? ⟨w.heap.size, 0, none⟩ = some (.int .i64 (nn : Int)) := hcn
    have hcrd : W.drew.cell? ⟨w.heap.size + 1, 0, none⟩ = some (.slice none 0 0) := hcr
    have hfrd : W.drew.frozen? ⟨w.heap.size + 1, 0, none⟩ = false := hfr
    refine wpAnyC_two (i := 0) (j := 4) (by kernel_rfl) rfl rfl (fun K hK2 => ?_) (fun K hK2 => ?_)
    · skip
      go_simp
      refine hK2 _ _ ⟨trivial, ?_⟩
      clear hK2 K
      refine wpAnyC_two (i := 1) (j := 4) (by kernel_rfl) rfl rfl (fun K hK2 => ?_) (fun K hK2 => ?_)
      · skip
        go_simp
        refine hK2 _ _ ⟨trivial, ?_⟩
        clear hK2 K
        refine wpAnyC_two (i := 2) (j := 4) (by kernel_rfl) rfl rfl (fun K hK2 => ?_) (fun K hK2 => ?_)
        · skip
          go_simp
          refine hK2 _ _ ⟨trivial, ?_⟩
          clear hK2 K
          refine wpAnyC_two (i := 3) (j := 4) (by kernel_rfl) rfl rfl (fun K hK2 => ?_) (fun K hK2 => ?_)
          · skip
            go_simp
            refine hK2 _ _ ⟨trivial, ?_⟩
            clear hK2 K
            refine wpAnyC_one (i := 4) (by kernel_rfl) rfl (fun K hK2 => ?_)
            go_simp
            refine hK2 _ _ ⟨trivial, ?_⟩
            clear hK2 K
            refine wpAnyC_one (i := 5) (by kernel_rfl) rfl (fun K hK2 => ?_)
            go_simp
            refine (part_i gd 0 (D.nb * 4096) cd nn 4096 _ _ W.drew rfl rfl (by omega) (by omega) (by omega)).mono ?_
            rintro e w' ⟨rfl, rfl⟩
            refine hK2 _ _ ⟨trivial, ?_⟩
            clear hK2 K
            refine wpAnyC_one (i := 6) (by kernel_rfl) rfl (fun K hK2 => ?_)
            go_simp
            refine hK2 _ _ ⟨trivial, ?_⟩
            clear hK2 K
            refine wpAnyC_done (by kernel_rfl) ?_ _
            obtain ⟨V, hV⟩ : ∃ V, V = (W.setCell ⟨w.heap.size + 1, 0, none⟩ (.slice (some ⟨gd, nn * 4096, none⟩) 4096 4096)).drew := ⟨_, rfl⟩
            have hK' : V.heap[D']? = some (.deferred (some [])) := by rw [hV]; exact (KeepsOthers.setCell W ⟨w.heap.size + 1, 0, none⟩ (.slice (some ⟨gd, nn * 4096, none⟩) 4096 4096)).same D' _ hK rfl
            have hcV : V.cell? ⟨w.heap.size + 1, 0, none⟩ = some (.slice (some ⟨gd, nn * 4096, none⟩) 4096 4096) := by rw [hV]; exact World.cell?_setCell_same' W _ _ (by rw [hcr]; rfl)
            have hBV : Below w.heap.size w V := by rw [hV]; exact (hB.setCell (p := ⟨w.heap.size + 1, 0, none⟩) (by simp) _).drew
            rw [← hV]
            clear hV
            have hc5 := cell_kept hcV (grownBy_putObj' _ D' (.deferred none)) (fun r e => by cases e; exact ⟨_, hK', rfl⟩)
            gi_wp2
            refine ⟨by simp, .inl ⟨_, _, rfl, run_takeDeferred hK', ?_⟩⟩
            refine ⟨.slice (some ⟨gd, nn * 4096, none⟩) 4096 4096, ?_, ⟨gd, nn * 4096, 4096, rfl, by rw [hST.out]; have := hdur.out; rw [Nat.zero_add] at this; exact this⟩, hBV.trans (belowK_b (w := w) (Nat.le_refl _) _ D' _ _ (by omega) hK' rfl rfl)⟩
            simp [results, Tryz.f43, go_sem, hc5]
          · skip
            go_simp
            refine hK2 _ _ ⟨trivial, ?_⟩
            clear hK2 K
            refine wpAnyC_one (i := 3) (by kernel_rfl) rfl (fun K hK2 => ?_)
            go_simp
            refine hK2 _ _ ⟨trivial, ?_⟩
            clear hK2 K
            refine wpAnyC_one (i := 5) (by kernel_rfl) rfl (fun K hK2 => ?_)
            go_simp
            refine (part_i gd 0 (D.nb * 4096) cd nn 4096 _ _ W.drew rfl rfl (by omega) (by omega) (by omega)).mono ?_
            rintro e w' ⟨rfl, rfl⟩
            refine hK2 _ _ ⟨trivial, ?_⟩
            clear hK2 K
            refine wpAnyC_one (i := 6) (by kernel_rfl) rfl (fun K hK2 => ?_)
            go_simp
            refine hK2 _ _ ⟨trivial, ?_⟩
            clear hK2 K
            refine wpAnyC_done (by kernel_rfl) ?_ _
            obtain ⟨V, hV⟩ : ∃ V, V = (W.setCell ⟨w.heap.size + 1, 0, none⟩ (.slice (some ⟨gd, nn * 4096, none⟩) 4096 4096)).drew := ⟨_, rfl⟩
            have hK' : V.heap[D']? = some (.deferred (some [])) := by rw [hV]; exact (KeepsOthers.setCell W ⟨w.heap.size + 1, 0, none⟩ (.slice (some ⟨gd, nn * 4096, none⟩) 4096 4096)).same D' _ hK rfl
            have hcV : V.cell? ⟨w.heap.size + 1, 0, none⟩ = some (.slice (some ⟨gd, nn * 4096, none⟩) 4096 4096) := by rw [hV]; exact World.cell?_setCell_same' W _ _ (by rw [hcr]; rfl)
            have hBV : Below w.heap.size w V := by rw [hV]; exact (hB.setCell (p := ⟨w.heap.size + 1, 0, none⟩) (by simp) _).drew
            rw [← hV]
            clear hV
            have hc5 := cell_kept hcV (grownBy_putObj' _ D' (.deferred none)) (fun r e => by cases e; exact ⟨_, hK', rfl⟩)
            gi_wp2
            refine ⟨by simp, .inl ⟨_, _, rfl, run_takeDeferred hK', ?_⟩⟩
            refine ⟨.slice (some ⟨gd, nn * 4096, none⟩) 4096 4096, ?_, ⟨gd, nn * 4096, 4096, rfl, by rw [hST.out]; have := hdur.out; rw [Nat.zero_add] at this; exact this⟩, hBV.trans (belowK_b (w := w) (Nat.le_refl _) _ D' _ _ (by omega) hK' rfl rfl)⟩
            simp [results, Tryz.f43, go_sem, hc5]
        · skip
          go_simp
          refine hK2 _ _ ⟨trivial, ?_⟩
          clear hK2 K
          refine wpAnyC_one (i := 2) (by kernel_rfl) rfl (fun K hK2 => ?_)
          go_simp
          refine hK2 _ _ ⟨trivial, ?_⟩
          clear hK2 K
          refine wpAnyC_one (i := 3) (by kernel_rfl) rfl (fun K hK2 => ?_)
          go_simp
          refine hK2 _ _ ⟨trivial, ?_⟩
          clear hK2 K
          refine wpAnyC_one (i := 5) (by kernel_rfl) rfl (fun K hK2 => ?_)
          go_simp
          refine (part_i gd 0 (D.nb * 4096) cd nn 4096 _ _ W.drew rfl rfl (by omega) (by omega) (by omega)).mono ?_
          rintro e w' ⟨rfl, rfl⟩
          refine hK2 _ _ ⟨trivial, ?_⟩
          clear hK2 K
          refine wpAnyC_one (i := 6) (by kernel_rfl) rfl (fun K hK2 => ?_)
          go_simp
          refine hK2 _ _ ⟨trivial, ?_⟩
          clear hK2 K
          refine wpAnyC_done (by kernel_rfl) ?_ _
          obtain ⟨V, hV⟩ : ∃ V, V = (W.setCell ⟨w.heap.size + 1, 0, none⟩ (.slice (some ⟨gd, nn * 4096, none⟩) 4096 4096)).drew := ⟨_, rfl⟩
          have hK' : V.heap[D']? = some (.deferred (some [])) := by rw [hV]; exact (KeepsOthers.setCell W ⟨w.heap.size + 1, 0, none⟩ (.slice (some ⟨gd, nn * 4096, none⟩) 4096 4096)).same D' _ hK rfl
          have hcV : V.cell? ⟨w.heap.size + 1, 0, none⟩ = some (.slice (some ⟨gd, nn * 4096, none⟩) 4096 4096) := by rw [hV]; exact World.cell?_setCell_same' W _ _ (by rw [hcr]; rfl)
          have hBV : Below w.heap.size w V := by rw [hV]; exact (hB.setCell (p := ⟨w.heap.size + 1, 0, none⟩) (by simp) _).drew
          rw [← hV]
          clear hV
          have hc5 := cell_kept hcV (grownBy_putObj' _ D' (.deferred none)) (fun r e => by cases e; exact ⟨_, hK', rfl⟩)
          gi_wp2
          refine ⟨by simp, .inl ⟨_, _, rfl, run_takeDeferred hK', ?_⟩⟩
          refine ⟨.slice (some ⟨gd, nn * 4096, none⟩) 4096 4096, ?_, ⟨gd, nn * 4096, 4096, rfl, by rw [hST.out]; have := hdur.out; rw [Nat.zero_add] at this; exact this⟩, hBV.trans (belowK_b (w := w) (Nat.le_refl _) _ D' _ _ (by omega) hK' rfl rfl)⟩
          simp [results, Tryz.f43, go_sem, hc5]
      · skip
        go_simp
        refine hK2 _ _ ⟨trivial, ?_⟩
        clear hK2 K
        refine wpAnyC_one (i := 1) (by kernel_rfl) rfl (fun K hK2 => ?_)
        go_simp
        refine hK2 _ _ ⟨trivial, ?_⟩
        clear hK2 K
        refine wpAnyC_one (i := 2) (by kernel_rfl) rfl (fun K hK2 => ?_)
        go_simp
        refine hK2 _ _ ⟨trivial, ?_⟩
        clear hK2 K
        refine wpAnyC_one (i := 3) (by kernel_rfl) rfl (fun K hK2 => ?_)
        go_simp
        refine hK2 _ _ ⟨trivial, ?_⟩
        clear hK2 K
        refine wpAnyC_one (i := 5) (by kernel_rfl) rfl (fun K hK2 => ?_)
        go_simp
        refine (part_i gd 0 (D.nb * 4096) cd nn 4096 _ _ W.drew rfl rfl (by omega) (by omega) (by omega)).mono ?_
        rintro e w' ⟨rfl, rfl⟩
        refine hK2 _ _ ⟨trivial, ?_⟩
        clear hK2 K
        refine wpAnyC_one (i := 6) (by kernel_rfl) rfl (fun K hK2 => ?_)
        go_simp
        refine hK2 _ _ ⟨trivial, ?_⟩
        clear hK2 K
        refine wpAnyC_done (by kernel_rfl) ?_ _
        obtain ⟨V, hV⟩ : ∃ V, V = (W.setCell ⟨w.heap.size + 1, 0, none⟩ (.slice (some ⟨gd, nn * 4096, none⟩) 4096 4096)).drew := ⟨_, rfl⟩
        have hK' : V.heap[D']? = some (.deferred (some [])) := by rw [hV]; exact (KeepsOthers.setCell W ⟨w.heap.size + 1, 0, none⟩ (.slice (some ⟨gd, nn * 4096, none⟩) 4096 4096)).same D' _ hK rfl
        have hcV : V.cell? ⟨w.heap.size + 1, 0, none⟩ = some (.slice (some ⟨gd, nn * 4096, none⟩) 4096 4096) := by rw [hV]; exact World.cell?_setCell_same' W _ _ (by rw [hcr]; rfl)
        have hBV : Below w.heap.size w V := by rw [hV]; exact (hB.setCell (p := ⟨w.heap.size + 1, 0, none⟩) (by simp) _).drew
        rw [← hV]
        clear hV
        have hc5 := cell_kept hcV (grownBy_putObj' _ D' (.deferred none)) (fun r e => by cases e; exact ⟨_, hK', rfl⟩)
        gi_wp2
        refine ⟨by simp, .inl ⟨_, _, rfl, run_takeDeferred hK', ?_⟩⟩
        refine ⟨.slice (some ⟨gd, nn * 4096, none⟩) 4096 4096, ?_, ⟨gd, nn * 4096, 4096, rfl, by rw [hST.out]; have := hdur.out; rw [Nat.zero_add] at this; exact this⟩, hBV.trans (belowK_b (w := w) (Nat.le_refl _) _ D' _ _ (by omega) hK' rfl rfl)⟩
        simp [results, Tryz.f43, go_sem, hc5]
    · skip
      go_simp
      refine hK2 _ _ ⟨trivial, ?_⟩
      clear hK2 K
      refine wpAnyC_one (i := 0) (by kernel_rfl) rfl (fun K hK2 => ?_)
      go_simp
      refine hK2 _ _ ⟨trivial, ?_⟩
      clear hK2 K
      refine wpAnyC_one (i := 1) (by kernel_rfl) rfl (fun K hK2 => ?_)
      go_simp
      refine hK2 _ _ ⟨trivial, ?_⟩
      clear hK2 K
      refine wpAnyC_one (i := 2) (by kernel_rfl) rfl (fun K hK2 => ?_)
      go_simp
      refine hK2 _ _ ⟨trivial, ?_⟩
      clear hK2 K
      refine wpAnyC_one (i := 3) (by kernel_rfl) rfl (fun K hK2 => ?_)
      go_simp
      refine hK2 _ _ ⟨trivial, ?_⟩
      clear hK2 K
      refine wpAnyC_one (i := 5) (by kernel_rfl) rfl (fun K hK2 => ?_)
      go_simp
      refine (part_i gd 0 (D.nb * 4096) cd nn 4096 _ _ W.drew rfl rfl (by omega) (by omega) (by omega)).mono ?_
      rintro e w' ⟨rfl, rfl⟩
      refine hK2 _ _ ⟨trivial, ?_⟩
      clear hK2 K
      refine wpAnyC_one (i := 6) (by kernel_rfl) rfl (fun K hK2 => ?_)
      go_simp
      refine hK2 _ _ ⟨trivial, ?_⟩
      clear hK2 K
      refine wpAnyC_done (by kernel_rfl) ?_ _
      obtain ⟨V, hV⟩ : ∃ V, V = (W.setCell ⟨w.heap.size + 1, 0, none⟩ (.slice (some ⟨gd, nn * 4096, none⟩) 4096 4096)).drew := ⟨_, rfl⟩
      have hK' : V.heap[D']? = some (.deferred (some [])) := by rw [hV]; exact (KeepsOthers.setCell W ⟨w.heap.size + 1, 0, none⟩ (.slice (some ⟨gd, nn * 4096, none⟩) 4096 4096)).same D' _ hK rfl
      have hcV : V.cell? ⟨w.heap.size + 1, 0, none⟩ = some (.slice (some ⟨gd, nn * 4096, none⟩) 4096 4096) := by rw [hV]; exact World.cell?_setCell_same' W _ _ (by rw [hcr]; rfl)
      have hBV : Below w.heap.size w V := by rw [hV]; exact (hB.setCell (p := ⟨w.heap.size + 1, 0, none⟩) (by simp) _).drew
      rw [← hV]
      clear hV
      have hc5 := cell_kept hcV (grownBy_putObj' _ D' (.deferred none)) (fun r e => by cases e; exact ⟨_, hK', rfl⟩)
      gi_wp2
      refine ⟨by simp, .inl ⟨_, _, rfl, run_takeDeferred hK', ?_⟩⟩
      refine ⟨.slice (some ⟨gd, nn * 4096, none⟩) 4096 4096, ?_, ⟨gd, nn * 4096, 4096, rfl, by rw [hST.out]; have := hdur.out; rw [Nat.zero_add] at this; exact this⟩, hBV.trans (belowK_b (w := w) (Nat.le_refl _) _ D' _ _ (by omega) hK' rfl rfl)⟩
      simp [results, Tryz.f43, go_sem, hc5]
  case stop =>
    rintro D' c pre W hD ⟨k, hk, rfl⟩ ⟨⟨rfl, ini, last, e1, e2, e3, hcr⟩, hB⟩ hK
    gi_wp2
    refine ⟨by simp, .inl ⟨_, _, rfl, run_takeDeferred hK, ?_⟩⟩
    have hc5 := cell_kept hcr (grownBy_putObj' _ D' (.deferred none)) (fun r e => by cases e; exact ⟨_, hK, rfl⟩)
    obtain ⟨k', rfl⟩ : ∃ k', k = k' + 1 := by
      cases k with
      | zero => simp [downs] at e1
      | succ k' => exact ⟨k', rfl⟩
    rw [downs_succ] at e1
    obtain ⟨rfl, e5⟩ := List.append_inj' e1 rfl
    obtain rfl : comes ps k' = last := by simpa using e5
    obtain ⟨m, hm⟩ : ∃ m, m = ps.length - 1 - k' := ⟨_, rfl⟩
    have hmp : m < ps.length := by omega
    have hmu : m < D.uf.length := by rw [← h.len]; exact hmp
    have hcm : comes ps k' = (m, ps[m]) := by
      unfold comes
      rw [← hm, List.getElem?_eq_getElem hmp]
      rfl
    obtain ⟨q1, q2, _⟩ := h.each m hmp hmu
    have hST : ST = D.uf[m].2 := by
      have h1 := hmet.out k' (by omega) e2
      have h2 : D.uf.length - k' = m + 1 := by rw [← h.len]; omega
      rw [h2, lastOf_succ D.uf nn m hmu, if_pos (by rw [← q1]; rw [hcm] at e3; exact e3)] at h1
      rw [hstand.out, h1]
      rfl
    rw [hcm] at hc5
    refine ⟨.slice (some ⟨ps[m].2.1, 0, none⟩) 4096 ps[m].2.2, ?_, ⟨ps[m].2.1, 0, ps[m].2.2, rfl, by rw [hST]; exact q2.rd⟩, hB.trans (belowK_b (w := w) (Nat.le_refl _) W D' _ _ (by omega) hK rfl rfl)⟩
    simp [results, Tryz.f43, go_sem, hc5]

theorem stand_length {D : DS} (h : D.Ok) (nn : Nat) (hn : nn < D.nb) : (D.stand nn).length = 4096 := by
  have key : ∀ k, k ≤ D.uf.length → ∀ x, lastOf D.uf nn k = some x → x.length = 4096 := by
    intro k
    induction k with
    | zero => intro _ x hx; simp [lastOf] at hx
    | succ k ih =>
      intro hk x hx
      rw [lastOf_succ D.uf nn k (by omega)] at hx
      split at hx
      · have := (h.at k (by omega)).2
        simp at hx
        rw [← hx]; exact this
      · exact ih (by omega) x hx
  unfold DS.stand
  cases e : lastOf D.uf nn D.uf.length with
  | none => exact blk_length _ _ (h.room hn)
  | some x => exact key _ (Nat.le_refl _) x e

/-- Read -/
theorem read_at {g : Nat} {w : World} {D : DS} {F : Nat → Prop} (hd : IsDisk w g D F) (nn : Nat) (hn : nn < D.nb) (hg : D.gone = false) (hlim : D.uf.length ≤ 1000000) :
    Calls Tryz.prog 13 #[.pointer (some ⟨g, 0, none⟩), .int .i64 (nn : Int)] w fun e w' => ∃ gr cr, e = .returned (.tuple #[.slice (some ⟨gr, 0, none⟩) 4096 cr, .int .i64 0]) ∧ w.heap.size ≤ gr ∧ RowB w' gr cr (D.stand nn) ∧ Below w.heap.size w w' := by
  obtain ⟨gd, cd, vu, ps, h⟩ := hd
  have c := isMade_at h
  have cH := has_at h (nn : Int)
  have hhas : D.has (nn : Int) = true := by simp [DS.has]; omega
  rw [hhas] at cH
  have cS := standing_at h nn hn hlim
  obtain ⟨_, _, _, _, c4, _⟩ := box_cells h.box
  rw [hg] at c4
  have Hlen : Hid _ := stand_length h.ok nn hn
  generalize D.stand nn = ST at cS Hlen ⊢
  go_enter Tryz.func13, Tryz.ntmps13
  go_wp2_with fail
  refine c.mono ?_
  rintro e w' ⟨rfl, rfl⟩
  go_wp2_with fail
  refine cH.mono ?_
  rintro e w' ⟨rfl, rfl⟩
  go_wp2_with fail
  refine cS.mono ?_
  rintro e w1 ⟨⟨b, o, cap, rfl, hr⟩, b1⟩
  clear c cH cS
  go_wp2_with fail
  refine (clone_at cap 4096 ⟨b, o, none⟩ ST w1 Hlen.out (by omega) (by omega) (hr.below b1 (Nat.le_refl _))).mono ?_
  rintro e w2 ⟨gr, cr, rfl, hgr, r2, b2⟩
  have B2 := b1.trans (b2.mono b1.size)
  have z1 := b1.size
  clear b1 b2
  go_wp2
  go_ret2
  exact ⟨gr, cr, rfl, by omega, r2, B2⟩

theorem read_bad {g : Nat} {w : World} {D : DS} {F : Nat → Prop} (hd : IsDisk w g D F) (n : Int) (hE : D.readE n ≠ 0) :
    Calls Tryz.prog 13 #[.pointer (some ⟨g, 0, none⟩), .int .i64 n] w fun e w' => e = .returned (.tuple #[.slice none 0 0, .int .i64 (D.readE n : Int)]) ∧ w = w' := by
  obtain ⟨gd, cd, vu, ps, h⟩ := hd
  have c := isMade_at h
  have cH := has_at h n
  obtain ⟨_, _, _, _, c4, _⟩ := box_cells h.box
  cases hh : D.has n with
  | false =>
    have e : D.readE n = 70 := by simp [DS.readE, hh]
    rw [e]
    rw [hh] at cH
    go_enter Tryz.func13, Tryz.ntmps13
    go_wp2_with fail
    refine c.mono ?_
    rintro e w' ⟨rfl, rfl⟩
    go_wp2_with fail
    refine cH.mono ?_
    rintro e w' ⟨rfl, rfl⟩
    go_wp2
    go_ret2
    exact ⟨rfl, rfl⟩
  | true =>
    cases hg : D.gone with
    | false => exact absurd (by simp [DS.readE, hh, hg]) hE
    | true =>
      have e : D.readE n = 6 := by simp [DS.readE, hh, hg]
      rw [e]
      rw [hh] at cH
      rw [hg] at c4
      go_enter Tryz.func13, Tryz.ntmps13
      go_wp2_with fail
      refine c.mono ?_
      rintro e w' ⟨rfl, rfl⟩
      go_wp2_with fail
      refine cH.mono ?_
      rintro e w' ⟨rfl, rfl⟩
      go_wp2
      go_ret2
      exact ⟨rfl, rfl⟩
end Go.Proofs.YtglahlbponlepaaGreat.Dk

/-
  What the calls do to it.
-/
namespace Go.Proofs.YtglahlbponlepaaGreat.J
open Go.RowKit
open Go.Proofs.YtglahlbponlepaaGreat.Dk (Box)

section
variable {w u u' : World} {g dg i nx sy T H : Nat} {gs : List G} {v9 : Value}
theorem St.below (h : St w g dg i nx sy T H gs v9 u) (b : Below u.heap.size u u') : St w g dg i nx sy T H gs v9 u' := by
  obtain ⟨⟨D, F, j, c, nb, ok, l1, l2, wl, ln, im, hF⟩, bel, t, r, ch, nl, ni⟩ := h
  exact ⟨⟨D, F, j.below j.flt b b.size, c, nb, ok, l1, l2, wl, ln.below b, fun q hq => (im q hq).below b, hF⟩, bel.trans (b.mono bel.size), t, r, ch, nl, ni⟩
theorem St.more (h : St w g dg i nx sy T H gs v9 u) : St w g dg (i + 1) nx sy T H gs v9 u := by
  obtain ⟨⟨D, F, j, c, nb, ok, l1, l2, r⟩, bel, t, rm, ch, nl, ni⟩ := h
  exact ⟨⟨D, F, j, c, nb, ok, by omega, by omega, r⟩, bel, t, rm, ch, nl, by omega⟩
theorem JD.ok {J : JS} {xs : List Int} {D : Dk.DS} {F : Nat → Prop} (h : JD u g dg J xs D F) : D.Ok := by
  obtain ⟨Fd, ⟨gd, cd, vu, ps, hl⟩, _⟩ := h.disk
  exact hl.ok

theorem St.calls {f : Nat} {a : Array Value} {v : Value} (h : St w g dg i nx sy T H gs v9 u) {P : World → Prop} (hc : ∀ D F, JD u g dg (jN nx sy T (tot gs) H) (szs gs) D F → Calm D → D.nb = 64 → D.Ok → Whl D gs → D.uf.length ≤ 5 * i → D.n ≤ 1000 + 5 * i → Ln w.heap.size F u v9 gs → (∀ q ∈ gs, ImF F u q.al q.n q.cl (grpL q.N q.n)) → (∀ k, F k → w.heap.size ≤ k) → Calls Tryz.prog f a u fun r u' => r = .returned v ∧ P u') :
    Calls Tryz.prog f a u fun r u' => r = .returned v ∧ P u' := by
  obtain ⟨⟨D, F, j, c, nb, ok, l1, l2, wl, ln, im, hF⟩, _⟩ := h
  exact hc D F j c nb ok wl l1 l2 ln im hF

theorem St.flush (h : St w g dg i nx sy T H gs v9 u) (hi : i ≤ 40) : Calls Tryz.prog 6 #[.pointer (some ⟨g, 0, none⟩)] u fun r u' => r = .returned (.int .i64 0) ∧ St w g dg i nx (nx - 1) T H gs v9 u' := by
  have h' := h
  have h1 := h.nlen
  have h2 := h.nxi
  refine h.calls fun D F j c nb ok wl l1 l2 ln im hF => ?_
  refine (flush_to j rfl c.operE (by show (1 : Int) ≤ (nx : Int); omega) (by show (nx : Int) ≤ _; omega)).mono ?_
  rintro r u' ⟨rfl, F', j', hF', hU⟩
  obtain ⟨e, c'⟩ := c.flush
  have ej : ({ jN nx sy T (tot gs) H with synced := (jN nx sy T (tot gs) H).next - 1 } : JS) = jN nx (nx - 1) T (tot gs) H := by
    have : ((nx - 1 : Nat) : Int) = (nx : Int) - 1 := by omega
    simp [jN, this]
  rw [ej] at j'
  refine ⟨rfl, ⟨⟨D.flush, F', j', c', by rw [e]; exact nb, ok.flush, by rw [e]; exact Nat.zero_le _, by rw [e]; exact l2, wl.flush c ok nb, ln.upd hU hF', fun q hq => (im q hq).upd hU hF', fun k hk => (hF' k hk).elim (hF k) (Nat.le_trans h'.bel.size)⟩, below_upd h'.bel hU hF h'.bel.size, h'.T16, h'.room, h'.chain, h'.nlen, h'.nxi⟩⟩

theorem St.release (h : St w g dg i nx (nx - 1) T H gs v9 u) (hi : i ≤ 40) (m : Nat) (hm : m < gs.length) (S : Int) (hS : S = ((gs[m]).seq : Int)) : Calls Tryz.prog 7 #[.pointer (some ⟨g, 0, none⟩), .int .i64 S] u fun r u' => r = .returned (.int .i64 0) ∧
      ∀ b o cap, v9 = .slice (some ⟨b, o, none⟩) gs.length cap → St w g dg i nx (nx - 1) ((T + tot (gs.take (m + 1))) % 16) H (gs.drop (m + 1)) (.slice (if cap = m + 1 then some ⟨b, o, none⟩ else some ⟨b, o + (m + 1) * 3, none⟩) (gs.length - (m + 1)) (cap - (m + 1))) u' := by
  subst hS
  have h' := h
  have h1 := h.nlen
  have h2 := h.nxi
  have h3 := h.room
  obtain ⟨c1, _⟩ := chain_at gs T _ m hm h.chain
  have ht := tot_take gs (m + 1)
  refine h.calls fun D F j c nb ok wl l1 l2 ln im hF => ?_
  have hlen : (szs gs).length = gs.length := szs_length gs
  refine (release_ok j rfl _ (by show ¬ (((nx - 1 : Nat) : Int) < _); omega) (by omega) (by omega) (fun x hx => ?_) (by rw [hlen]; show (gs.length : Int) ≤ (nx : Int); omega) (by show (nx : Int) ≤ _; omega) (jN_R _ _ _ _ _ h'.T16 h'.room) (m + 1) (by rw [hlen]; show cntTo ((nx : Int) - gs.length) _ _ = _; unfold cntTo; omega) (by rw [szs_take, szs_sum]; show (_ : Int) ≤ (tot gs : Int); omega)).mono ?_
  · simp only [szs, List.mem_map] at hx
    obtain ⟨q, hq, rfl⟩ := hx
    obtain ⟨k, hk, rfl⟩ := List.getElem_of_mem hq
    obtain ⟨_, _, c3, _⟩ := chain_at gs T _ k hk h'.chain
    omega
  rintro r u' ⟨rfl, F', j', hF', hU⟩
  refine ⟨rfl, fun b o cap hv => ?_⟩
  subst hv
  have ej : ({ jN nx (nx - 1) T (tot gs) H with T := ((jN nx (nx - 1) T (tot gs) H).T + ((szs gs).take (m + 1)).sum) % (jN nx (nx - 1) T (tot gs) H).S, U := (jN nx (nx - 1) T (tot gs) H).U - ((szs gs).take (m + 1)).sum } : JS) = jN nx (nx - 1) ((T + tot (gs.take (m + 1))) % 16) (tot (gs.drop (m + 1))) H := by
    rw [szs_take, szs_sum]
    have e1 : ((T : Int) + (tot (gs.take (m + 1)) : Int)) % 16 = (((T + tot (gs.take (m + 1))) % 16 : Nat) : Int) := by omega
    have e2 : (tot gs : Int) - (tot (gs.take (m + 1)) : Int) = ((tot (gs.drop (m + 1)) : Nat) : Int) := by omega
    simp only [jN, e1, e2]
  rw [ej, szs_drop] at j'
  refine ⟨⟨D, F', j', c, nb, ok, l1, l2, fun q hq => wl q (List.mem_of_mem_drop hq), (ln.cut (by omega)).upd hU hF', fun q hq => (im q (List.mem_of_mem_drop hq)).upd hU hF', fun k hk => (hF' k hk).elim (hF k) (Nat.le_trans h'.bel.size)⟩, below_upd h'.bel hU hF h'.bel.size, Nat.mod_lt _ (by decide), by omega, ?_, by simp; omega, h'.nxi⟩
  have cd := chain_drop gs T _ (m + 1) (by omega) h'.chain
  rw [show nx - (gs.drop (m + 1)).length = nx - gs.length + (m + 1) by simp; omega]
  exact chain_congr _ _ _ _ (by omega) cd

theorem blocksN_in (k : Nat) (h1 : 1 ≤ k) (h2 : k ≤ 32) : Rc.blocksN (k : Int) = ((k + 1 : Nat) : Int) := by
  unfold Rc.blocksN
  rw [if_pos (by omega)]
  omega
theorem St.reserve (h : St w g dg i nx sy T H gs v9 u) (k : Nat) (h1 : 1 ≤ k) (h2 : k ≤ 4) : Calls Tryz.prog 8 #[.pointer (some ⟨g, 0, none⟩), .int .i64 (k : Int)] u fun r u' => ∃ e : Int, r = .returned (.int .i64 e) ∧ ((e = 0 ∧ St w g dg i nx sy T (H + (k + 1)) gs v9 u') ∨ (e = 5 ∧ 16 < tot gs + H + (k + 1) ∧ St w g dg i nx sy T H gs v9 u')) := by
  have h' := h
  obtain ⟨⟨D, F, j, c, nb, ok, l1, l2, wl, ln, im, hF⟩, bel, t, rm, ch, nl, ni⟩ := h
  have hfr := jN_fr nx sy T (tot gs) H t rm
  by_cases hroom : tot gs + H + (k + 1) ≤ 16
  · refine (reserve_to j rfl (k : Int) ((k + 1 : Nat) : Int) (blocksN_in k h1 (by omega)) (by omega) (by show ¬ ((16 : Int) < _); omega) (jN_R _ _ _ _ _ t rm) (by omega) (by rw [hfr]; omega)).mono ?_
    rintro r u' ⟨rfl, F', j', hF', hU⟩
    have ej : ({ jN nx sy T (tot gs) H with H := (jN nx sy T (tot gs) H).H + ((k + 1 : Nat) : Int) } : JS) = jN nx sy T (tot gs) (H + (k + 1)) := by simp [jN]
    rw [ej] at j'
    exact ⟨0, rfl, .inl ⟨rfl, ⟨D, F', j', c, nb, ok, l1, l2, wl, ln.upd hU hF', fun q hq => (im q hq).upd hU hF', fun k hk => (hF' k hk).elim (hF k) (Nat.le_trans bel.size)⟩, below_upd bel hU hF bel.size, t, by omega, ch, nl, ni⟩⟩
  · obtain ⟨a, cc, hb⟩ := j.box
    refine (reserve_full hb rfl (k : Int) ((k + 1 : Nat) : Int) (blocksN_in k h1 (by omega)) 5 (by decide) (by omega) (by show ¬ ((16 : Int) < _); omega) (.inr ⟨⟨jN_R _ _ _ _ _ t rm, by omega, by rw [hfr]; omega⟩, rfl⟩)).mono ?_
    rintro r u' ⟨rfl, b⟩
    exact ⟨5, rfl, .inr ⟨rfl, by omega, h'.below b⟩⟩
theorem St.cancel (h : St w g dg i nx sy T H gs v9 u) (k : Nat) (h1 : 1 ≤ k) (h2 : k ≤ 4) : Calls Tryz.prog 12 #[.pointer (some ⟨g, 0, none⟩), .int .i64 (k : Int)] u fun r u' => ∃ e : Int, r = .returned (.int .i64 e) ∧ ((e = 0 ∧ k + 1 ≤ H ∧ St w g dg i nx sy T (H - (k + 1)) gs v9 u') ∨ (e = 2 ∧ H < k + 1 ∧ St w g dg i nx sy T H gs v9 u')) := by
  have h' := h
  obtain ⟨⟨D, F, j, c, nb, ok, l1, l2, wl, ln, im, hF⟩, bel, t, rm, ch, nl, ni⟩ := h
  by_cases hroom : k + 1 ≤ H
  · refine (cancel_to j rfl (k : Int) ((k + 1 : Nat) : Int) (blocksN_in k h1 (by omega)) (by omega) (jN_R _ _ _ _ _ t rm) (by omega) (by show (_ : Int) ≤ (H : Int); omega)).mono ?_
    rintro r u' ⟨rfl, F', j', hF', hU⟩
    have ej : ({ jN nx sy T (tot gs) H with H := (jN nx sy T (tot gs) H).H - ((k + 1 : Nat) : Int) } : JS) = jN nx sy T (tot gs) (H - (k + 1)) := by
      have : ((H - (k + 1) : Nat) : Int) = (H : Int) - ((k + 1 : Nat) : Int) := by omega
      simp only [jN, this]
    rw [ej] at j'
    exact ⟨0, rfl, .inl ⟨rfl, hroom, ⟨D, F', j', c, nb, ok, l1, l2, wl, ln.upd hU hF', fun q hq => (im q hq).upd hU hF', fun k hk => (hF' k hk).elim (hF k) (Nat.le_trans bel.size)⟩, below_upd bel hU hF bel.size, t, by omega, ch, nl, ni⟩⟩
  · obtain ⟨a, cc, hb⟩ := j.box
    refine (cancel_full hb rfl (k : Int) ((k + 1 : Nat) : Int) (blocksN_in k h1 (by omega)) 2 (by decide) (by omega) (.inr ⟨⟨jN_R _ _ _ _ _ t rm, by omega, by show ¬ ((_ : Int) ≤ (H : Int)); omega⟩, rfl⟩)).mono ?_
    rintro r u' ⟨rfl, b⟩
    exact ⟨2, rfl, .inr ⟨rfl, by omega, h'.below b⟩⟩
end
end Go.Proofs.YtglahlbponlepaaGreat.J
