/-
  JAppHeld, JDel, JRest, JUpTo, JRel, JGrp, DkInts, JCalls, JOpened, JAwake: put together.
-/
import Derived.Test.YtglahlbponlepaaGreatG7
import Derived.Shelf.Slices.Cells
import Derived.Deep.RegionHeld3
/-
  Append into room that was kept.
-/
namespace Go.Proofs.YtglahlbponlepaaGreat.J
open Go.RowKit
open Go.Proofs.YtglahlbponlepaaGreat.Dk (Box)

set_option maxRecDepth 100000 in
set_option maxHeartbeats 4000000 in
theorem append_held {w : World} {g dg n cap : Nat} {al : Option Addr} {J : JS} {is : List (Int × List UInt8)} {xs : List Int} {D : Dk.DS} {F : Nat → Prop} (hJ : JD w g dg J xs D F) (hb : J.broken = false) (hl : is.length = n) (hI : Rc.Imgs w al is)
    (hok : Rc.okGroup J.epoch J.next is) (hR : Rg.R J.S J.T J.U J.H) (h2 : ((n + 1 : Nat) : Int) ≤ J.H)
    (hlog : J.log = 2) (hc : Calm D) (hS : J.S ≤ 64) (hnb : 2 + J.S ≤ D.nb) (hd1 : D.uf.length ≤ 900000) (hd2 : D.n ≤ 900000) (hx : xs.length ≤ 1000) :
    Calls Tryz.prog 11 #[.pointer (some ⟨g, 0, none⟩), .slice al n cap, .bool true] w fun r w' => r = .returned (.tuple #[.int .i64 J.next, .int .i64 0]) ∧
      JTo w F g dg { J with next := J.next + 1, U := J.U + (n + 1 : Nat), H := J.H - ((n + 1 : Nat) : Int) } (xs ++ [((n + 1 : Nat) : Int)]) (grow D J.S.toNat ((J.T + J.U) % J.S).toNat (Rc.putL J.epoch.toNat J.next.toNat is) (n + 1)) w' := by
  obtain ⟨i0, hi, hz0, hz1, hz2⟩ := info_parts Dk.info3
  obtain ⟨⟨vs, Fd, h, hd, hFg, hrow, hFv, hFd⟩, hFF, hFlt⟩ := hJ
  have hn32 : n ≤ 32 := by have := hok.1.2.1; simp at this; omega
  have hst := (Rc.okStamp_iff _ _).1 hok.1.1
  have hfr : Rg.fr J.S J.T J.U J.H = J.S - J.U - J.H := by rw [Rg.fr, if_pos hR]
  have hR' := hR
  unfold Rg.R at hR'
  have hSn : ¬ J.S < (n + 1 : Nat) := by omega
  have ca := app_ahead_ok (cap := cap) h hb hl hI hok
  rw [if_neg hSn] at ca
  have cp := fun u => Rg.put_ok J.S J.T J.U J.H ((n + 1 : Nat) : Int) ((n + 1 : Nat) : Int) u hR (by omega) ⟨by omega, by omega, by omega⟩ (by rw [hfr]; omega)
  unfold Rg.ri at cp
  -- the places
  obtain ⟨S, hSe⟩ : ∃ S : Nat, J.S = (S : Int) := ⟨J.S.toNat, by omega⟩
  have hS0 : 0 < S := by omega
  obtain ⟨f, hfe⟩ : ∃ f : Nat, (J.T + J.U) % J.S = (f : Int) := ⟨((J.T + J.U) % J.S).toNat, by have := Int.emod_nonneg (J.T + J.U) (b := J.S) (by omega); omega⟩
  have hfS : f < S := by have := Int.emod_lt_of_pos (J.T + J.U) (b := J.S) (by omega); omega
  have hSt : J.S.toNat = S := by omega
  have hft : ((J.T + J.U) % J.S).toNat = f := by omega
  rw [hSt, hft]
  rw [hfe] at cp
  obtain ⟨U', hU'⟩ : ∃ U', U' = J.U + ((n + 1 : Nat) : Int) := ⟨_, rfl⟩
  obtain ⟨H', hH'⟩ : ∃ H', H' = J.H - ((n + 1 : Nat) : Int) := ⟨_, rfl⟩
  rw [← hU', ← hH'] at cp ⊢
  clear hU' hH'
  have hbl : Hid ((Rc.putL J.epoch.toNat J.next.toNat is).length = n + 1) := by show _ = _; rw [Rc.putL_length, hl]
  have hlt := h.lt
  have HW : Hid (∀ w5 cl gl, Below w.heap.size w w5 → New w.heap.size w5 gl (Rc.putL J.epoch.toNat J.next.toNat is) → Calls Tryz.prog 37 #[.pointer (some ⟨g, 0, none⟩), .slice (some ⟨gl, 0, none⟩) (n + 1) cl, .int .i64 (f : Int)] w5 fun r w' => r = .returned (.int .i64 0) ∧ Wr w5 dg Fd (grow D S f (Rc.putL J.epoch.toNat J.next.toNat is) (n + 1)) w') := fun w5 cl gl B5 hN => by
    have hFd' : ∀ i, w.heap.size ≤ i → ¬ Fd i := fun i hi hf => by have := hFlt i (hFd i hf); omega
    refine write_at (c := cl) (o := 0) (fun k => grow D S f (Rc.putL J.epoch.toNat J.next.toNat is) k) (Rc.putL J.epoch.toNat J.next.toNat is) S f (h.below B5) hFg hSe hlog (by rw [grow_zero]; exact disk_kept hd (fun i hi => B5.block i (hFlt i (hFd i hi))) B5.size) hbl.out (by omega) (fun k hk => ?_) (hFd' _ hN.1) hN.2.1 hS0 (by omega) hfS (fun k hk => ⟨grow_succ hc S f _ k hk, ?_, (grow_calm hc S f _ k).operE, ?_⟩)
    · obtain ⟨q, c, a1, a2, a3, a4, _⟩ := hN.2.2 k hk
      exact ⟨⟨q, 0, none⟩, c, by rw [Nat.zero_add]; exact a1, a2, a3, hFd' q a4⟩
    · have := Nat.mod_lt (f + k) hS0
      show _ < D.nb
      omega
    · have := hbl.out
      constructor
      · show (D.uf ++ wrs S f _ k).length ≤ _
        rw [List.length_append, wrs_length]
        omega
      · show D.n + k ≤ _
        omega
  have H0 : Hid (Box w g (jC g dg vs J) 63) := h
  have HD : Hid (∀ k, vs.ownBlock = some k → ¬ Fd k ∧ F k) := hFv
  have HF : Hid (∀ i, Fd i → F i) := hFd
  have HR : Hid (w.ownsRow 0 3 1 vs xs.length (ics xs)) := hrow
  have HX : Hid (F g ∧ ¬ Fd g ∧ ∀ i, F i → i < w.heap.size) := ⟨hFF, hFg, hFlt⟩
  generalize grow D S f (Rc.putL J.epoch.toNat J.next.toNat is) (n + 1) = D' at HW ⊢
  generalize Rc.putL J.epoch.toNat J.next.toNat is = bs at HW ca hbl
  have hn1 : J.next + 1 ≤ 549755813889 ∧ 1 ≤ J.next := by omega
  clear h hI hok hSn hR h2 hR' hd hFg hrow hFv hFd hFF hFlt hSe hS0 hfe hfS hSt hft hfr hlog hc hS hnb hd1 hd2 hst hb hl
  go_enter Tryz.func11, Tryz.ntmps11
  go_wp2_with fail
  refine Calls.mono ca ?_
  rintro r w4 ⟨e, rfl, rfl, hu, gl, cl, hbc, hN⟩
  have B4 := ap3_upd hu
  have z4 : w.heap.size + 3 ≤ w4.heap.size := by have := hu.size; rwa [ap3_size] at this
  have HA : Hid (Box w4 w.heap.size #[.pointer (some ⟨g, 0, none⟩)] 24) := (hu.block w.heap.size (by rw [ap3_size]; omega) (by show ¬ w.heap.size = w.heap.size + 2; omega)).trans (ap3_a w g al n cap)
  have HC : Hid (Box w4 (w.heap.size + 2) #[.slice (some ⟨gl, 0, none⟩) (n + 1) cl] 39) := hbc
  have HN : Hid (New w.heap.size w4 gl bs) := by
    obtain ⟨n1, n2, n3⟩ := hN
    rw [ap3_size] at n1
    refine ⟨by omega, n2, fun k hk => ?_⟩
    obtain ⟨q, c, a1, a2, a3, a4, a5⟩ := n3 k hk
    rw [ap3_size] at a4
    exact ⟨q, c, a1, a2, a3, by omega, a5⟩
  have HS : Hid (∀ u, Below w4.heap.size w4 u → R8 w g gl n cl J u) := fun u bu => by
    have hz := bu.size
    obtain ⟨_, _, _, _, _, _, c6, c7, c8, c9, _, _⟩ := box_cells (H0.out.below B4)
    have ca := HA.out.cell 0
    have cc := hbc.cell 0
    simp at ca cc
    have hg4 : g < w4.heap.size := by omega
    exact ⟨(bu.cell (p := ⟨w.heap.size, 0, none⟩) HA.out.lt).trans ca, (bu.cell (p := ⟨g, 6, none⟩) hg4).trans c6, (bu.cell (p := ⟨g, 7, none⟩) hg4).trans c7, (bu.cell (p := ⟨g, 8, none⟩) hg4).trans c8, (bu.cell (p := ⟨g, 9, none⟩) hg4).trans c9, (bu.cell (p := ⟨w.heap.size + 2, 0, none⟩) hbc.lt).trans cc⟩
  have ccx := hbc.cell 0
  simp at ccx
  clear hu hbc hN ca
  go_upto_region 8 with fail
  clear ccx
  go_cut [9, 11, 12] from 24 (fun v9 v11 v12 u => v9 = .int .i64 0 ∧ v12 = .int .i64 (f : Int) ∧ A8 w4 J.S J.T U' H' v11 u)
  case first =>
    go_region_held3 (fun u => u.cell? ⟨w.heap.size, 0, none⟩ = some (.pointer (some ⟨g, 0, none⟩)) ∧ u.cell? ⟨g, 6, none⟩ = some (.int .i64 J.S) ∧ u.cell? ⟨g, 7, none⟩ = some (.int .i64 J.T) ∧ u.cell? ⟨g, 8, none⟩ = some (.int .i64 J.U) ∧ u.cell? ⟨g, 9, none⟩ = some (.int .i64 J.H) ∧ u.cell? ⟨w.heap.size + 2, 0, none⟩ = some (.slice (some ⟨gl, 0, none⟩) (n + 1) cl))
      (first
        | with_reducible exact HS.out _ ((Below.refl w4.heap.size w4).drew)
        | with_reducible exact HS.out _ hb1
        | with_reducible exact HS.out _ (((Below.refl w4.heap.size w4).alloc (Nat.le_refl _) _).drew)
        | with_reducible exact HS.out _ (hb1.alloc hb1.size _)
        | with_reducible exact HS.out _ (below_set4 hb1 (Nat.le_refl _) _ _ _ _))
      (first
        | (go_at_call 36; refine Calls.mono (cp w4.drew) ?_; rintro r W ⟨rfl, hw1⟩; have hb1 : Below w4.heap.size w4 W := (Below.refl w4.heap.size w4).drew.trans hw1)
        | (go_at_call 36; refine Calls.mono (cp (w4.alloc (.cells #[.int .i64 0, .int .i64 0, .int .i64 0, .int .i64 0] 61)).drew) ?_; rintro r W ⟨rfl, hw1⟩; have hb1 : Below w4.heap.size w4 W := ((Below.refl w4.heap.size w4).alloc (Nat.le_refl _) _).drew.trans (hw1.mono (by simp)); have hnb := (hw1.block w4.heap.size (by simp)).trans (Dk.Box.new w4 #[.int .i64 0, .int .i64 0, .int .i64 0, .int .i64 0] 61); obtain ⟨⟨q0, q1, q2, q3⟩, p0, p1, p2, p3⟩ := box4 hnb))
    all_goals
      go_wp2_with fail
      go_meet
      case rel =>
        first
          | exact ⟨rfl, rfl, A8.ofSet hb1 hnb _ _ _ _⟩
          | exact ⟨rfl, rfl, A8.ofNew hb1 _ _ _ _⟩
  case rest =>
    obtain ⟨rfl, rfl, b5, rfl, hb5, hx5, B5⟩ := hcut
    have B5w : Below w.heap.size w wc := B4.trans (B5.mono B4.size)
    have hN5 : New w.heap.size wc gl bs := HN.out.kept B5.size (fun k h1 h2 => B5.block k h2)
    have cW := HW.out wc cl gl B5w hN5
    have ha5 := HA.out.below B5
    have hc5 := HC.out.below B5
    have y1 := ha5.cell 0
    have y2 := hc5.cell 0
    simp at y1 y2
    have HX5 : Hid (Box wc b5 #[.int .i64 J.S, .int .i64 J.T, .int .i64 U', .int .i64 H'] 61) := hx5
    clear HS hx5 HW
    go_wp2_with fail
    refine Calls.mono cW ?_
    rintro r w6 ⟨rfl, F', hd6, hF6, hu6⟩
    have HD6 : Hid (Dk.IsDisk w6 dg D' F') := hd6
    have HF6 : Hid (∀ i, F' i → Fd i ∨ wc.heap.size ≤ i) := hF6
    have HU6 : Hid (Dk.Upd Fd wc w6) := hu6
    have hFd' : ∀ i, w.heap.size ≤ i → ¬ Fd i := fun i hi hf => by have := HX.out.2.2 i (HF.out i hf); omega
    have g6 : Box w6 g (jC g dg vs J) 63 := (hu6.block g (Nat.lt_of_lt_of_le hlt B5w.size) HX.out.2.1).trans (H0.out.below B5w)
    have a6 : Box w6 w.heap.size #[.pointer (some ⟨g, 0, none⟩)] 24 := (hu6.block _ ha5.lt (hFd' _ (Nat.le_refl _))).trans ha5
    have c6 : Box w6 (w.heap.size + 2) #[.slice (some ⟨gl, 0, none⟩) (n + 1) cl] 39 := (hu6.block _ hc5.lt (hFd' _ (by omega))).trans hc5
    have x6 : Box w6 b5 #[.int .i64 J.S, .int .i64 J.T, .int .i64 U', .int .i64 H'] 61 := (hu6.block _ HX5.out.lt (hFd' _ (by omega))).trans HX5.out
    clear hd6 hF6 hu6 cW y1 y2 ha5 hc5 HX5 hN5 HN
    obtain ⟨g0, g1, g2, g3, g4, g5, g6c, g7, g8, g9, g10, g11⟩ := box_cells g6
    have f6 := g6.frozen 6
    have f7 := g6.frozen 7
    have f8 := g6.frozen 8
    have f9 := g6.frozen 9
    have y1 := a6.cell 0
    have y2 := c6.cell 0
    simp at y1 y2
    obtain ⟨⟨x0, x1, x2, x3⟩, _⟩ := box4 x6
    have g7b := box_ring g6 J.S J.T U' H'
    have hU7 := upd_set (upd_set (upd_set (upd_set (Dk.Upd.refl (· = g) w6) g 6 (.inl rfl) (.int .i64 J.S)) g 7 (.inl rfl) (.int .i64 J.T)) g 8 (.inl rfl) (.int .i64 U')) g 9 (.inl rfl) (.int .i64 H')
    go_upto_region 16 with fail
    generalize (((w6.setCell ⟨g, 6, none⟩ (.int .i64 J.S)).setCell ⟨g, 7, none⟩ (.int .i64 J.T)).setCell ⟨g, 8, none⟩ (.int .i64 U')).setCell ⟨g, 9, none⟩ (.int .i64 H') = w7 at g7b hU7 ⊢
    have hz67 := hU7.size
    have hne : ∀ q (cs : Array Value) (t : TypeId), Box w6 q cs t → t ≠ 63 → q ≠ g := fun q cs t hq ht e => (e ▸ hq : Box w6 g cs t).ne g6 ht rfl
    have a7 : Box w7 w.heap.size #[.pointer (some ⟨g, 0, none⟩)] 24 := (hU7.block _ a6.lt (hne _ _ _ a6 (by decide))).trans a6
    have c7 : Box w7 (w.heap.size + 2) #[.slice (some ⟨gl, 0, none⟩) (n + 1) cl] 39 := (hU7.block _ c6.lt (hne _ _ _ c6 (by decide))).trans c6
    have r7 : w7.ownsRow 0 3 1 vs xs.length (ics xs) := by
      have hr := HR.out
      have hv : ∀ k, vs.ownBlock = some k → k < w.heap.size ∧ ¬ Fd k := fun k hk => ⟨HX.out.2.2 k (HD.out k hk).2, (HD.out k hk).1⟩
      have r5 := owns_kept hr (fun k hk => B5w.block k (hv k hk).1)
      have r6 := owns_kept r5 (fun k hk => HU6.out.block k (Nat.lt_of_lt_of_le (hv k hk).1 B5w.size) (hv k hk).2)
      refine owns_kept r6 (fun k hk => hU7.block k ?_ (fun e => ?_))
      · exact Nat.lt_of_lt_of_le (Nat.lt_of_lt_of_le (hv k hk).1 B5w.size) HU6.out.size
      · subst e
        rcases r6.2 with ⟨q, _⟩ | ⟨q, cap', cur, q1, _, q2, _⟩
        · rw [q] at hk; cases hk
        · rw [q1] at hk
          injection hk with hk
          have hk' : q = k := hk
          subst hk'
          exact hne q _ 3 q2 (by decide) rfl
    clear g0 g1 g2 g3 g4 g5 g6c g7 g8 g9 g10 g11 f6 f7 f8 f9 y1 y2 x0 x1 x2 x3 x6 a6 c6
    have y1 := a7.cell 0
    have y2 := c7.cell 0
    simp at y1 y2
    obtain ⟨vp, vc, rfl⟩ : ∃ a c, vs = .slice a xs.length c := by
      rcases r7.2 with ⟨q, q0⟩ | ⟨q, cap', cur, q1, _⟩
      · exact ⟨none, 0, by rw [q, q0]⟩
      · exact ⟨_, _, q1⟩
    have HG7 : Hid (Box w7 g (jC g dg (.slice vp xs.length vc) { J with U := U', H := H' }) 63) := g7b
    have HR7 : Hid (w7.ownsRow 0 3 1 (.slice vp xs.length vc) xs.length (ics xs)) := r7
    have HU7 : Hid (Dk.Upd (· = g) w6 w7) := hU7
    have HA7 : Hid (Box w7 w.heap.size #[.pointer (some ⟨g, 0, none⟩)] 24) := a7
    have HC7 : Hid (Box w7 (w.heap.size + 2) #[.slice (some ⟨gl, 0, none⟩) (n + 1) cl] 39) := c7
    clear g7b r7 hU7 hne a7 c7 g6 y1 y2
    go_cut [] from 54 (fun u => A16 w7 g dg (.slice vp xs.length vc) { J with U := U', H := H' } (xs.length + 1) (ics xs ++ [.int .i64 ((n : Int) + 1)]) u)
    case first =>
      have l7a := HA7.out.lt
      have HS : Hid (∀ u : World, (∀ k, k < w7.heap.size → k ≠ g → (Value.slice vp xs.length vc).ownBlock ≠ some k → u.heap[k]? = w7.heap[k]?) → u.cell? ⟨w.heap.size, 0, none⟩ = some (.pointer (some ⟨g, 0, none⟩)) ∧ u.cell? ⟨w.heap.size + 2, 0, none⟩ = some (.slice (some ⟨gl, 0, none⟩) (n + 1) cl)) := fun u hu => by
        have hv : ∀ q (cs : Array Value) (t : TypeId), Box w7 q cs t → t ≠ 3 → (Value.slice vp xs.length vc).ownBlock ≠ some q := fun q cs t hq ht e => by
          rcases HR7.out.2 with ⟨e1, _⟩ | ⟨q', cap', cur, e1, _, e2, _⟩
          · rw [e1] at e; cases e
          · rw [e1] at e
            injection e with e
            have e' : q' = q := e
            subst e'
            exact hq.ne e2 ht rfl
        have y1 := HA7.out.cell 0
        have y2 := HC7.out.cell 0
        simp at y1 y2
        exact ⟨(World.cell?_of_block (a := ⟨w.heap.size, 0, none⟩) (hu _ HA7.out.lt (fun e => HA7.out.ne HG7.out (by decide) e) (hv _ _ _ HA7.out (by decide)))).trans y1,
          (World.cell?_of_block (a := ⟨w.heap.size + 2, 0, none⟩) (hu _ HC7.out.lt (fun e => HC7.out.ne HG7.out (by decide) e) (hv _ _ _ HC7.out (by decide)))).trans y2⟩
      have g10 := (box_cells HG7.out).2.2.2.2.2.2.2.2.2.2.1
      refine wp_region_noPanic ?_
      refine wp_region_held_drew (S := fun u => u.cell? ⟨w.heap.size, 0, none⟩ = some (.pointer (some ⟨g, 0, none⟩)) ∧ u.cell? ⟨w.heap.size + 2, 0, none⟩ = some (.slice (some ⟨gl, 0, none⟩) (n + 1) cl)) (by kernel_rfl) (HS.out _ (fun _ _ _ _ => rfl)) (fun hHeld => ?_)
      refine wpAnyH_take (i := 0) (v := ?_) rfl (by kernel_rfl) (by kernel_rfl) (by kernel_rfl) (fun _ _ _ h => h) (Or.inl ⟨by rfl, ?_⟩) (by assumption) ?_
      rotate_left
      · intro w hSw
        go_simp
        with_reducible rfl
      simp only [Act.put, List.setIfInBounds_toArray, List.set_cons_zero, List.set_cons_succ, List.getElem_toArray, List.getElem_cons_zero]
      refine wpAnyH_take (i := 1) (v := ?_) rfl (by kernel_rfl) (by kernel_rfl) (by kernel_rfl) (fun _ _ _ h => h) (Or.inl ⟨by rfl, ?_⟩) (by assumption) ?_
      rotate_left
      · intro w hSw
        go_simp
        with_reducible rfl
      simp only [Act.put, List.setIfInBounds_toArray, List.set_cons_zero, List.set_cons_succ, List.getElem_toArray, List.getElem_cons_zero, List.getElem_cons_succ]
      refine wpAnyH_take (i := 2) (v := ?_) rfl (by kernel_rfl) (by kernel_rfl) (by kernel_rfl) (fun _ _ _ h => h) (Or.inl ⟨by rfl, ?_⟩) (by assumption) ?_
      rotate_left
      · intro w hSw
        go_simp
        with_reducible rfl
      simp only [Act.put, List.setIfInBounds_toArray, List.set_cons_zero, List.set_cons_succ, List.getElem_toArray, List.getElem_cons_zero, List.getElem_cons_succ]
      refine wpAnyH_take (i := 3) (v := ?_) rfl (by kernel_rfl) (by kernel_rfl) (by kernel_rfl) (fun _ _ _ h => h) (Or.inl ⟨by rfl, ?_⟩) (by assumption) ?_
      rotate_left
      · intro w hSw
        go_simp
        with_reducible rfl
      simp only [Act.put, List.setIfInBounds_toArray, List.set_cons_zero, List.set_cons_succ, List.getElem_toArray, List.getElem_cons_zero, List.getElem_cons_succ]
      refine wpAnyH_take (i := 5) (v := ?_) rfl (by kernel_rfl) (by kernel_rfl) (by kernel_rfl) (fun _ _ _ h => h) (Or.inl ⟨by rfl, ?_⟩) (by assumption) ?_
      rotate_left
      · intro w hSw
        go_simp
        with_reducible rfl
      simp only [Act.put, List.setIfInBounds_toArray, List.set_cons_zero, List.set_cons_succ, List.getElem_toArray, List.getElem_cons_zero, List.getElem_cons_succ]
      refine wpAnyH_take (i := 6) (v := ?_) rfl (by kernel_rfl) (by kernel_rfl) (by kernel_rfl) (fun _ _ _ h => h) (Or.inl ⟨by rfl, ?_⟩) (by assumption) ?_
      rotate_left
      · intro w hSw
        go_simp
        with_reducible rfl
      simp only [Act.put, List.setIfInBounds_toArray, List.set_cons_zero, List.set_cons_succ, List.getElem_toArray, List.getElem_cons_zero, List.getElem_cons_succ]
      have g10a : ∀ o : Obj, (w7.alloc o).cell? ⟨g, 10, none⟩ = some (.slice vp xs.length vc) := fun o => (box_cells (HG7.out.alloc o)).2.2.2.2.2.2.2.2.2.2.1
      refine wpAnyH_ready (rs := [4, 7]) (by kernel_rfl) (by simp) ?_
      refine AllReadyH.cons rfl (fun K hK => ?_) (AllReadyH.cons rfl (fun K hK => ?_) AllReadyH.nil)
      · go_simp
        refine hK.out _ _ (HS.out _ (fun _ _ _ _ => rfl)) (fun hHeld => ?_)
        clear hK K
        refine wpAnyH_ready (rs := [7]) (by kernel_rfl) (by simp) ?_
        refine AllReadyH.cons rfl (fun K hK => ?_) AllReadyH.nil
        go_simp
        refine hK.out _ _ (HS.out _ (fun k hk _ _ => heap_alloc_old _ _ hk)) (fun hHeld => ?_)
        clear hK K
        refine wpAnyH_ready (rs := [8]) (by kernel_rfl) (by simp) ?_
        refine AllReadyH.cons rfl (fun K hK => ?_) AllReadyH.nil
        refine step_append_lies _ (by rfl) _ _ _ (by rfl) 0 3 i0 _ 1 8 Tryz.underlying22 hi hz0 hz1 hz2 rfl (by omega) (.slice vp xs.length vc) xs.length (ics xs) (by rfl) (owns_kept HR7.out (fun k hk => heap_alloc_old w7 _ (HR7.out.lt k hk).2))
          ⟨w7.heap.size, 0, none⟩ 1 1 [.int .i64 ((n : Int) + 1)] (by rfl) (by rfl) (World.news_of_block (cs := #[.int .i64 ((n : Int) + 1)]) (t := 3) (fr := (0, 0)) (heap_alloc_new w7 _)) (by intro u hu; simp at hu; subst hu; rfl)
          (by omega) (by unfold maxLen; omega) (by omega) (by omega) (w7.heap.size + 1) (by simp) ?_
        intro gg gc w8 hown8 hgrow hat hlt8
        have hz8 := hgrow.size
        have hzA : w7.heap.size + 1 ≤ w8.heap.size := by simpa using hz8
        have hk8 : ∀ k, k < w7.heap.size → (Value.slice vp xs.length vc).ownBlock ≠ some k → w8.heap[k]? = w7.heap[k]? := fun k hk hne => (hgrow.block k (by simp; omega) (fun e => hne e.symm)).trans (heap_alloc_old w7 _ hk)
        have hng : (Value.slice vp xs.length vc).ownBlock ≠ some g := fun e => by
          rcases HR7.out.2 with ⟨e1, _⟩ | ⟨q', cap', cur, e1, _, e2, _⟩
          · rw [e1] at e; cases e
          · rw [e1] at e
            injection e with e
            have e' : q' = g := e
            subst e'
            exact HG7.out.ne e2 (by decide) rfl
        have G8 : Hid (Box w8 g (jC g dg (.slice vp xs.length vc) { J with U := U', H := H' }) 63) := (hk8 g HG7.out.lt hng).trans HG7.out
        have R8' : Hid (w8.ownsRow 0 3 1 (.slice (some ⟨gg, 0, none⟩) (xs.length + 1) gc) (xs.length + 1) (ics xs ++ [.int .i64 ((n : Int) + 1)])) := hown8
        have g8c := (box_cells G8.out).2.2.2.2.2.2.2.2.2.2.1
        have g8f := G8.out.frozen 10
        have HT8 : Hid ((Value.slice vp xs.length vc).ownBlock = some gg ∨ gg = w7.heap.size + 1) := hat
        have HK8 : Hid (∀ k, k < w7.heap.size → (Value.slice vp xs.length vc).ownBlock ≠ some k → w8.heap[k]? = w7.heap[k]?) := hk8
        have HO8 : Hid (w8.os = w7.os ∧ w8.tape = w7.tape ∧ w8.output = w7.output) := ⟨hgrow.os, hgrow.tape, hgrow.output⟩
        have hgne : gg ≠ g := fun e => by
          subst e
          rcases hown8.2 with ⟨e1, _⟩ | ⟨q', cap', cur, e1, _, e2, _⟩
          · cases e1
          · injection e1 with e1
            injection e1 with e1
            injection e1 with e1
            subst e1
            exact G8.out.ne e2 (by decide) rfl
        refine hK.out _ _ (HS.out _ (fun k hk _ hv => hk8 k hk hv)) (fun hHeld => ?_)
        clear hK K hown8 hgrow hat hk8 hng hz8
        simp only [Act.put, List.setIfInBounds_toArray, List.set_cons_zero, List.set_cons_succ, List.getElem_toArray, List.getElem_cons_zero, List.getElem_cons_succ]
        refine wpAnyH_take (i := 9) (v := ?_) rfl (by kernel_rfl) (by kernel_rfl) (by kernel_rfl) (fun _ _ _ h => h) (Or.inl ⟨by rfl, ?_⟩) (by assumption) ?_
        rotate_left
        · intro w hSw
          go_simp
          with_reducible rfl
        simp only [Act.put, List.setIfInBounds_toArray, List.set_cons_zero, List.set_cons_succ, List.getElem_toArray, List.getElem_cons_zero, List.getElem_cons_succ]
        refine wpAnyH_take (i := 10) (v := ?_) rfl (by kernel_rfl) (by kernel_rfl) (by kernel_rfl) (fun _ _ _ h => h) (Or.inl ⟨by rfl, ?_⟩) (by assumption) ?_
        rotate_left
        · intro w hSw
          go_simp
          with_reducible rfl
        simp only [Act.put, List.setIfInBounds_toArray, List.set_cons_zero, List.set_cons_succ, List.getElem_toArray, List.getElem_cons_zero, List.getElem_cons_succ]
        refine wpAnyH_ready (rs := [11]) (by kernel_rfl) (by simp) ?_
        refine AllReadyH.cons rfl (fun K hK => ?_) AllReadyH.nil
        go_simp
        refine hK.out _ _ (HS.out _ (fun k hk hkg hv => (heap_setCell_other w8 ⟨g, 10, none⟩ k _ (by simpa using hkg)).trans (HK8.out k hk hv))) (fun hHeld => ?_)
        clear hK K
        refine wpAnyH_done (by kernel_rfl) ?_ _
        refine NoPanic.normal ?_
        go_wp2_with fail
        go_meet
        case rel =>
          refine ⟨_, box_sizes G8.out _, owns_kept R8'.out (fun k hk => ?_), fun k hk => ?_, ?_⟩
          · have : gg = k := by injection hk
            subst this
            exact heap_setCell_other w8 ⟨g, 10, none⟩ gg _ (by simpa using hgne)
          · have : gg = k := by injection hk
            subst this
            rcases HT8.out with h1 | h1
            · exact .inl h1
            · exact .inr (by omega)
          · obtain ⟨o1, o2, o3⟩ := HO8.out
            have s := Dk.grown_store w8 g 10 (.slice (some ⟨gg, 0, none⟩) (xs.length + 1) gc)
            have sz := s.size
            exact ⟨s.os.trans o1, s.tape.trans o2, s.output.trans o3, by omega, fun k hk hn => (heap_setCell_other w8 ⟨g, 10, none⟩ k _ (by simpa using fun e => hn (.inl e))).trans (HK8.out k hk (fun e => hn (.inr e)))⟩
      · go_simp
        refine hK.out _ _ (HS.out _ (fun k hk _ _ => heap_alloc_old _ _ hk)) (fun hHeld => ?_)
        clear hK K
        refine wpAnyH_ready (rs := [4]) (by kernel_rfl) (by simp) ?_
        refine AllReadyH.cons rfl (fun K hK => ?_) AllReadyH.nil
        go_simp
        refine hK.out _ _ (HS.out _ (fun k hk _ _ => heap_alloc_old _ _ hk)) (fun hHeld => ?_)
        clear hK K
        refine wpAnyH_ready (rs := [8]) (by kernel_rfl) (by simp) ?_
        refine AllReadyH.cons rfl (fun K hK => ?_) AllReadyH.nil
        refine step_append_lies _ (by rfl) _ _ _ (by rfl) 0 3 i0 _ 1 8 Tryz.underlying22 hi hz0 hz1 hz2 rfl (by omega) (.slice vp xs.length vc) xs.length (ics xs) (by rfl) (owns_kept HR7.out (fun k hk => heap_alloc_old w7 _ (HR7.out.lt k hk).2))
          ⟨w7.heap.size, 0, none⟩ 1 1 [.int .i64 ((n : Int) + 1)] (by rfl) (by rfl) (World.news_of_block (cs := #[.int .i64 ((n : Int) + 1)]) (t := 3) (fr := (0, 0)) (heap_alloc_new w7 _)) (by intro u hu; simp at hu; subst hu; rfl)
          (by omega) (by unfold maxLen; omega) (by omega) (by omega) (w7.heap.size + 1) (by simp) ?_
        intro gg gc w8 hown8 hgrow hat hlt8
        have hz8 := hgrow.size
        have hzA : w7.heap.size + 1 ≤ w8.heap.size := by simpa using hz8
        have hk8 : ∀ k, k < w7.heap.size → (Value.slice vp xs.length vc).ownBlock ≠ some k → w8.heap[k]? = w7.heap[k]? := fun k hk hne => (hgrow.block k (by simp; omega) (fun e => hne e.symm)).trans (heap_alloc_old w7 _ hk)
        have hng : (Value.slice vp xs.length vc).ownBlock ≠ some g := fun e => by
          rcases HR7.out.2 with ⟨e1, _⟩ | ⟨q', cap', cur, e1, _, e2, _⟩
          · rw [e1] at e; cases e
          · rw [e1] at e
            injection e with e
            have e' : q' = g := e
            subst e'
            exact HG7.out.ne e2 (by decide) rfl
        have G8 : Hid (Box w8 g (jC g dg (.slice vp xs.length vc) { J with U := U', H := H' }) 63) := (hk8 g HG7.out.lt hng).trans HG7.out
        have R8' : Hid (w8.ownsRow 0 3 1 (.slice (some ⟨gg, 0, none⟩) (xs.length + 1) gc) (xs.length + 1) (ics xs ++ [.int .i64 ((n : Int) + 1)])) := hown8
        have g8c := (box_cells G8.out).2.2.2.2.2.2.2.2.2.2.1
        have g8f := G8.out.frozen 10
        have HT8 : Hid ((Value.slice vp xs.length vc).ownBlock = some gg ∨ gg = w7.heap.size + 1) := hat
        have HK8 : Hid (∀ k, k < w7.heap.size → (Value.slice vp xs.length vc).ownBlock ≠ some k → w8.heap[k]? = w7.heap[k]?) := hk8
        have HO8 : Hid (w8.os = w7.os ∧ w8.tape = w7.tape ∧ w8.output = w7.output) := ⟨hgrow.os, hgrow.tape, hgrow.output⟩
        have hgne : gg ≠ g := fun e => by
          subst e
          rcases hown8.2 with ⟨e1, _⟩ | ⟨q', cap', cur, e1, _, e2, _⟩
          · cases e1
          · injection e1 with e1
            injection e1 with e1
            injection e1 with e1
            subst e1
            exact G8.out.ne e2 (by decide) rfl
        refine hK.out _ _ (HS.out _ (fun k hk _ hv => hk8 k hk hv)) (fun hHeld => ?_)
        clear hK K hown8 hgrow hat hk8 hng hz8
        simp only [Act.put, List.setIfInBounds_toArray, List.set_cons_zero, List.set_cons_succ, List.getElem_toArray, List.getElem_cons_zero, List.getElem_cons_succ]
        refine wpAnyH_take (i := 9) (v := ?_) rfl (by kernel_rfl) (by kernel_rfl) (by kernel_rfl) (fun _ _ _ h => h) (Or.inl ⟨by rfl, ?_⟩) (by assumption) ?_
        rotate_left
        · intro w hSw
          go_simp
          with_reducible rfl
        simp only [Act.put, List.setIfInBounds_toArray, List.set_cons_zero, List.set_cons_succ, List.getElem_toArray, List.getElem_cons_zero, List.getElem_cons_succ]
        refine wpAnyH_take (i := 10) (v := ?_) rfl (by kernel_rfl) (by kernel_rfl) (by kernel_rfl) (fun _ _ _ h => h) (Or.inl ⟨by rfl, ?_⟩) (by assumption) ?_
        rotate_left
        · intro w hSw
          go_simp
          with_reducible rfl
        simp only [Act.put, List.setIfInBounds_toArray, List.set_cons_zero, List.set_cons_succ, List.getElem_toArray, List.getElem_cons_zero, List.getElem_cons_succ]
        refine wpAnyH_ready (rs := [11]) (by kernel_rfl) (by simp) ?_
        refine AllReadyH.cons rfl (fun K hK => ?_) AllReadyH.nil
        go_simp
        refine hK.out _ _ (HS.out _ (fun k hk hkg hv => (heap_setCell_other w8 ⟨g, 10, none⟩ k _ (by simpa using hkg)).trans (HK8.out k hk hv))) (fun hHeld => ?_)
        clear hK K
        refine wpAnyH_done (by kernel_rfl) ?_ _
        refine NoPanic.normal ?_
        go_wp2_with fail
        go_meet
        case rel =>
          refine ⟨_, box_sizes G8.out _, owns_kept R8'.out (fun k hk => ?_), fun k hk => ?_, ?_⟩
          · have : gg = k := by injection hk
            subst this
            exact heap_setCell_other w8 ⟨g, 10, none⟩ gg _ (by simpa using hgne)
          · have : gg = k := by injection hk
            subst this
            rcases HT8.out with h1 | h1
            · exact .inl h1
            · exact .inr (by omega)
          · obtain ⟨o1, o2, o3⟩ := HO8.out
            have s := Dk.grown_store w8 g 10 (.slice (some ⟨gg, 0, none⟩) (xs.length + 1) gc)
            have sz := s.size
            exact ⟨s.os.trans o1, s.tape.trans o2, s.output.trans o3, by omega, fun k hk hn => (heap_setCell_other w8 ⟨g, 10, none⟩ k _ (by simpa using fun e => hn (.inl e))).trans (HK8.out k hk (fun e => hn (.inr e)))⟩
    case rest =>
      have h8 := hcut
      have A8' : A16 w7 g dg (.slice vp xs.length vc) { J with U := U', H := H' } (xs ++ [((n + 1 : Nat) : Int)]).length (ics (xs ++ [((n + 1 : Nat) : Int)])) wc := by
        rw [ics_snoc, List.length_append]
        exact hcut
      have fin := app_end HX.out HD.out HF.out B5w HF6.out HD6.out HU6.out HU7.out A8' (J.next + 1)
      obtain ⟨vs', hb8, hr8, hv8, hu8⟩ := h8
      have a8 : Box wc w.heap.size #[.pointer (some ⟨g, 0, none⟩)] 24 := (hu8.block _ HA7.out.lt (fun h => by
        rcases h with h | h
        · exact HA7.out.ne HG7.out (by decide) h
        · rcases HR7.out.2 with ⟨e1, _⟩ | ⟨q', cap', cur, e1, _, e2, _⟩
          · rw [e1] at h; cases h
          · rw [e1] at h
            injection h with h
            have e' : q' = w.heap.size := h
            rw [e'] at e2
            exact HA7.out.ne e2 (by decide) rfl)).trans HA7.out
      have y1 := a8.cell 0
      simp at y1
      have d4 := (box_cells hb8).2.2.2.2.1
      dsimp only at d4
      have f4 := hb8.frozen 4
      clear A8' hcut HA7 HC7 HR7 HG7 hu8 hv8 hr8 a8 HU6 HU7
      go_wp2_with fail
      exact bodyPost_ret (v := .tuple #[.int .i64 J.next, .int .i64 0]) (by simp [results, Tryz.results11, go_sem]) rfl ⟨rfl, fin⟩
end Go.Proofs.YtglahlbponlepaaGreat.J

/-
  slices.Delete from the front: the library's own contract, at this program's numbers.
-/
namespace Go.Proofs.YtglahlbponlepaaGreat.J
open Go.RowKit
open Go.Proofs.YtglahlbponlepaaGreat.Dk (Box)

def dRen : Go.Shelf.Ren := ⟨fun n => if n = 23 then 26 else n, fun t => if t = 22 then 22 else t, fun n => n⟩
theorem dLays : Go.Proofs.Lays2.n23 Tryz.prog dRen :=
  { mixed := by kernel_rfl
    f23 := Tryz.func26.trans (congrArg some (by kernel_rfl))
    t0 := by kernel_rfl
    a0 := Tryz.isAgg0
    z0 := Tryz.sizeOf0
    v0 := Tryz.zeroValue0
    t3 := by kernel_rfl
    a3 := Tryz.isAgg3
    z3 := Tryz.sizeOf3
    v3 := Tryz.zeroValue3
    t4 := by kernel_rfl
    a4 := Tryz.isAgg4
    z4 := Tryz.sizeOf4
    v4 := Tryz.zeroValue4
    t22 := by kernel_rfl
    a22 := Tryz.isAgg22
    z22 := Tryz.sizeOf22
    v22 := Tryz.zeroValue22
    i3 := by kernel_rfl }

/-- cells from o on, written over -/
def setL : Array Value → Nat → List Value → Array Value
  | cur, _, [] => cur
  | cur, o, v :: r => setL (cur.setIfInBounds o v) (o + 1) r
theorem setL_size : ∀ (vs : List Value) (cur : Array Value) (o : Nat), (setL cur o vs).size = cur.size
  | [], _, _ => rfl
  | v :: r, cur, o => by rw [setL, setL_size r]; simp
theorem setL_out : ∀ (vs : List Value) (cur : Array Value) (o j : Nat), j < o → (setL cur o vs)[j]? = cur[j]?
  | [], _, _, _, _ => rfl
  | v :: r, cur, o, j, h => by rw [setL, setL_out r _ (o + 1) j (by omega), Array.getElem?_setIfInBounds, if_neg (by omega)]
theorem setL_in : ∀ (vs : List Value) (cur : Array Value) (o j : Nat), o + vs.length ≤ cur.size → (h : j < vs.length) → (setL cur o vs)[o + j]? = some vs[j]
  | [], _, _, _, _, h => by simp at h
  | v :: r, cur, o, 0, hs, h => by
    simp only [List.length_cons] at hs
    show (setL cur o (v :: r))[o]? = _
    rw [setL, setL_out r _ (o + 1) o (by omega), Array.getElem?_setIfInBounds, if_pos rfl, if_pos (by omega)]
    rfl
  | v :: r, cur, o, j + 1, hs, h => by
    simp only [List.length_cons] at hs h
    have := setL_in r (cur.setIfInBounds o v) (o + 1) j (by simp; omega) (by omega)
    rw [setL, show o + (j + 1) = o + 1 + j by omega, this]
    rfl
theorem box_setCells {g : Nat} {t : TypeId} : ∀ (vs : List Value) (o : Nat) (w : World) (cur : Array Value), Box w g cur t → Box (w.setCells g o vs) g (setL cur o vs) t
  | [], _, _, _, h => h
  | v :: r, o, _, _, h => box_setCells r (o + 1) _ _ (h.store o v)
theorem upd_setCells {g : Nat} : ∀ (vs : List Value) (o : Nat) (w u : World), Dk.Upd (fun k => some g = some k) w u → Dk.Upd (fun k => some g = some k) w (u.setCells g o vs)
  | [], _, _, _, h => h
  | v :: r, o, w, _, h => upd_setCells r (o + 1) w _ (upd_set h g o (.inl rfl) v)

theorem delete_at {w : World} {vs : Value} {xs : List Int} (h : w.ownsRow 0 3 1 vs xs.length (ics xs)) (m : Nat) (hm : m ≤ xs.length) (hx : xs.length ≤ 1000) (h0 : 0 < xs.length) :
    Calls Tryz.prog 26 #[vs, .int .i64 0, .int .i64 (m : Int)] w fun r w' => ∃ v', r = .returned v' ∧ w'.ownsRow 0 3 1 v' (xs.drop m).length (ics (xs.drop m)) ∧ v'.ownBlock = vs.ownBlock ∧ Dk.Upd (fun k => vs.ownBlock = some k) w w' := by
  rcases h.2 with ⟨_, e0⟩ | ⟨g, cap, cur, rfl, hb, hg, hnc, hcm, hcs, ht⟩
  · omega
  have hB : Box w g cur 3 := hg
  rw [Nat.mul_one] at hcs ht
  have c := Any.slices_Delete_int_cells dLays g 0 xs.length cap 0 m xs w (Nat.le_refl _) hnc (by unfold maxLen at hcm; omega) (Nat.zero_le _) hm
    (fun j hj => by
      rw [Nat.zero_add, hB.cell j]
      have e : cur[j]? = (ics xs)[j]? := by
        rw [← ht, List.getElem?_take, if_pos hj]
        simp
      rw [e]
      simp [ics, hj])
    (fun j _ => hB.frozen _)
  refine Calls.mono c ?_
  rintro r w' ⟨rfl, q, rfl⟩
  have hy : ((xs.take xs.length).take 0 ++ (xs.take xs.length).drop m ++ List.replicate (m - 0) 0).length = xs.length := by simp; omega
  have hB1 : Box (w.drewN q) g cur 3 := hB
  generalize hys : ((xs.take xs.length).take 0 ++ (xs.take xs.length).drop m ++ List.replicate (m - 0) (0 : Int)) = ys at hy
  have hB2 := box_setCells (ys.map (Value.int .i64)) 0 _ _ hB1
  have hlen : (xs.drop m).length = xs.length - m := by simp
  have hU : Dk.Upd (fun k => some g = some k) w (w.drewN q) := ⟨rfl, rfl, rfl, Nat.le_refl _, fun _ _ _ => rfl⟩
  refine ⟨_, rfl, ⟨by simp [ics], .inr ⟨g, cap, _, by rw [hlen]; rfl, Nat.zero_le _, hB2, by omega, hcm, by rw [setL_size, Nat.mul_one]; exact hcs, ?_⟩⟩, rfl, upd_setCells _ 0 _ _ hU⟩
  refine List.ext_getElem? fun j => ?_
  rw [Nat.mul_one, List.getElem?_take]
  split
  · rename_i hj
    rw [hlen] at hj
    have h1 := setL_in (ys.map (Value.int .i64)) cur 0 j (by simp; omega) (by simp; omega)
    rw [Nat.zero_add] at h1
    rw [Array.getElem?_toList, h1]
    subst hys
    simp [ics, hj]
  · rename_i hj
    rw [hlen] at hj
    symm
    simp [ics]
    omega
end Go.Proofs.YtglahlbponlepaaGreat.J

/-
  What is asked ahead: Release's, Reserve's and Cancel's.
-/
namespace Go.Proofs.YtglahlbponlepaaGreat.J
open Go.RowKit
open Go.Proofs.YtglahlbponlepaaGreat.Dk (Box)

theorem release1_at {w : World} {g dg a b : Nat} {vs : Value} {J : JS} (h : Box w g (jC g dg vs J) 63) (n : Int) (ha : Box w a #[.int .i64 n] 3) (hb : Box w b #[.pointer (some ⟨g, 0, none⟩)] 24) :
    Calls Tryz.prog 24 #[.pointer (some ⟨a, 0, none⟩), .pointer (some ⟨b, 0, none⟩)] w fun r w' => r = .returned (.int .i64 (if J.synced < n then 2 else 0)) ∧ ∃ k, w' = w.drewN k := by
  have c5 := (box_cells h).2.2.2.2.2.1
  have ca := ha.cell 0
  have cb := hb.cell 0
  simp at ca cb
  by_cases hn : J.synced < n
  · rw [if_pos hn]
    go_enter Tryz.func24, Tryz.ntmps24
    go_wp2_with fail
    go_quiet (fail)
    go_wp2_with fail
    go_ret
    exact ⟨rfl, _, rfl⟩
  · rw [if_neg hn]
    go_enter Tryz.func24, Tryz.ntmps24
    go_wp2_with fail
    go_quiet (fail)
    go_wp2_with fail
    go_ret
    exact ⟨rfl, _, rfl⟩
theorem cancel1_at {w : World} {a : Nat} (n : Int) (ha : Box w a #[.int .i64 n] 3) :
    Calls Tryz.prog 38 #[.pointer (some ⟨a, 0, none⟩)] w fun r w' => r = .returned (.int .i64 (if n = 0 then 2 else 0)) ∧ w = w' := by
  have ca := ha.cell 0
  simp at ca
  by_cases hn : n = 0
  · subst hn
    rw [if_pos rfl]
    go_enter Tryz.func38, Tryz.ntmps38
    go_wp2_with fail
    go_ret
    exact ⟨rfl, rfl⟩
  · rw [if_neg hn]
    go_enter Tryz.func38, Tryz.ntmps38
    go_wp2_with fail
    go_ret
    exact ⟨rfl, rfl⟩
theorem reserve1_at {w : World} {g dg a b : Nat} {vs : Value} {J : JS} (h : Box w g (jC g dg vs J) 63) (n : Int) (ha : Box w a #[.int .i64 n] 3) (hb : Box w b #[.pointer (some ⟨g, 0, none⟩)] 24) :
    Calls Tryz.prog 30 #[.pointer (some ⟨a, 0, none⟩), .pointer (some ⟨b, 0, none⟩)] w fun r w' => r = .returned (.int .i64 (if n = 0 then 2 else if J.S < n then 232 else 0)) ∧ w = w' := by
  have ca := ha.cell 0
  have cb := hb.cell 0
  simp at ca cb
  by_cases hn : n = 0
  · subst hn
    rw [if_pos rfl]
    go_enter Tryz.func30, Tryz.ntmps30
    go_wp2_with fail
    go_ret
    exact ⟨rfl, rfl⟩
  · rw [if_neg hn]
    go_enter Tryz.func30, Tryz.ntmps30
    go_wp2_with fail
    refine (fits_at h n).mono ?_
    rintro r w1 ⟨rfl, rfl⟩
    go_wp2_with fail
    all_goals (go_ret; exact ⟨rfl, rfl⟩)
end Go.Proofs.YtglahlbponlepaaGreat.J

/-
  upTo: how many groups have numbers of at most seq, and how many blocks these have.
-/
namespace Go.Proofs.YtglahlbponlepaaGreat.J
open Go.RowKit
open Go.Proofs.YtglahlbponlepaaGreat.Dk (Box)

/-- of n groups from number f on those that are at most s -/
def cntTo (f s : Int) (n : Nat) : Nat := min n (s - f + 1).toNat
theorem sum_take_succ (xs : List Int) (k : Nat) (h : k < xs.length) : (xs.take (k + 1)).sum = (xs.take k).sum + xs[k] := by
  rw [List.take_succ_eq_append_getElem h, List.sum_append, List.sum_singleton]
theorem sum_take_le (xs : List Int) (hr : ∀ x ∈ xs, 0 ≤ x ∧ x ≤ 33) (k : Nat) (h : k ≤ xs.length) : 0 ≤ (xs.take k).sum ∧ (xs.take k).sum ≤ 33 * (k : Int) := by
  induction k with
  | zero => simp
  | succ k ih =>
    have := ih (by omega)
    have hx := hr xs[k] (List.getElem_mem _)
    rw [sum_take_succ xs k (by omega)]
    push_cast
    omega

theorem upTo_at {w : World} {g dg n c b o : Nat} {J : JS} (xs : List Int) (h : Box w g (jC g dg (.slice (some ⟨b, o, none⟩) n c) J) 63) (hl : xs.length = n)
    (hx : ∀ j (h : j < xs.length), w.cell? ⟨b, o + j, none⟩ = some (.int .i64 xs[j])) (hr : ∀ x ∈ xs, 0 ≤ x ∧ x ≤ 33) (h0 : n ≤ J.next) (h1 : J.next ≤ 549755813889) (hn : n ≤ 1000) (s : Int) :
    Calls Tryz.prog 25 #[.pointer (some ⟨g, 0, none⟩), .int .i64 s] w fun r w' => r = .returned (.tuple #[.int .i64 (cntTo (J.next - n) s n : Nat), .int .i64 (xs.take (cntTo (J.next - n) s n)).sum]) ∧ ∃ k, w' = w.drewN k := by
  have c10 := (box_cells h).2.2.2.2.2.2.2.2.2.2.1
  have hf : ∀ q, Calls Tryz.prog 60 #[.pointer (some ⟨g, 0, none⟩)] (w.drewN q) fun r w' => r = .returned (.int .i64 (J.next - n)) ∧ ∃ k', w' = (w.drewN q).drewN k' := fun q => first_at (w := w.drewN q) h h0 h1
  obtain ⟨f, hfe⟩ : ∃ f, f = J.next - n := ⟨_, rfl⟩
  rw [← hfe] at hf ⊢
  have hf0 : 0 ≤ f := by omega
  have hf1 : f ≤ 549755813889 := by omega
  have HX : Hid (∀ j (h : j < xs.length), w.cell? ⟨b, o + j, none⟩ = some (.int .i64 xs[j])) := hx
  have HR : Hid (∀ x ∈ xs, 0 ≤ x ∧ x ≤ 33) := hr
  have HL : Hid (xs.length = n) := hl
  clear h h0 h1 hfe hx hr hl
  go_enter Tryz.func25, Tryz.ntmps25
  go_wp2_with fail
  go_loopw [4, 5, 13] (fun u v i wr => ∃ k : Nat, k ≤ n ∧ i = .int .i64 k ∧ u = .int .i64 k ∧ v = .int .i64 (xs.take k).sum ∧ (k : Int) ≤ max 0 (s - f + 1) ∧ ∃ q, wr = w.drewN q) (fun _ _ i _ => n - (intOf i).toNat)
  case atStart => exact ⟨0, Nat.zero_le _, rfl, rfl, by simp, by omega, 0, rfl⟩
  case round =>
    obtain ⟨k, hk, rfl, rfl, rfl, hm, q, rfl⟩ := hrel
    by_cases hlt : k < n
    · have hk' : k < xs.length := by rw [HL.out]; exact hlt
      have cx := HX.out k hk'
      have hs1 := sum_take_le xs HR.out k (by omega)
      have hs2 := HR.out xs[k] (List.getElem_mem _)
      have hsu : Hid ((xs.take (k + 1)).sum = (xs.take k).sum + xs[k]) := sum_take_succ xs k hk'
      generalize xs[k] = x at *
      generalize hS : (xs.take k).sum = S at *
      by_cases hgt : s < f + k
      · go_wp2_with fail
        refine (hf q).mono ?_
        rintro r w1 ⟨rfl, q', rfl⟩
        go_wp2_with fail
        have e : cntTo f s n = k := by unfold cntTo; omega
        rw [e, hS]
        exact bodyPost_ret (v := .tuple #[.int .i64 (k : Int), .int .i64 S]) (by simp [results, Tryz.results25, go_sem]) rfl ⟨rfl, _, rfl⟩
      · go_wp2_with fail
        refine (hf q).mono ?_
        rintro r w1 ⟨rfl, q', rfl⟩
        go_wp2_with fail
        go_roundw
        case rel => exact ⟨k + 1, by omega, by push_cast; rfl, by push_cast; rfl, by rw [hsu.out], by omega, _, rfl⟩
        case measure => simp [intOf]; omega
    · obtain rfl : k = n := by omega
      go_wp2_with fail
      have e : cntTo f s k = k := by unfold cntTo; omega
      rw [e]
      exact bodyPost_ret (v := .tuple #[.int .i64 (k : Int), .int .i64 (xs.take k).sum]) (by simp [results, Tryz.results25, go_sem]) rfl ⟨rfl, _, rfl⟩
end Go.Proofs.YtglahlbponlepaaGreat.J

/-
  Release: groups are let go from the front.
-/
namespace Go.Proofs.YtglahlbponlepaaGreat.J
open Go.RowKit
open Go.Proofs.YtglahlbponlepaaGreat.Dk (Box)

/-- the world behind Release's boxes -/
def re2 (w : World) (g : Nat) (s : Int) : World := (w.alloc (.cells #[.pointer (some ⟨g, 0, none⟩)] 24)).alloc (.cells #[.int .i64 s] 3)
theorem re2_a (w : World) (g : Nat) (s : Int) : Box (re2 w g s) w.heap.size #[.pointer (some ⟨g, 0, none⟩)] 24 := (Dk.Box.new w _ 24).alloc _
theorem re2_b (w : World) (g : Nat) (s : Int) : Box (re2 w g s) (w.heap.size + 1) #[.int .i64 s] 3 := Rg.Box.next w _ _ 3
theorem re2_below (w : World) (g : Nat) (s : Int) : Below w.heap.size w (re2 w g s) := ((Below.refl w.heap.size w).alloc (Nat.le_refl _) _).alloc (by simp) _

/-- the journal's own box and its list of sizes were written, all else stands: the journal then -/
theorem JTo.same {w u : World} {g dg : Nat} {vs v' : Value} {J' : JS} {ys : List Int} {D : Dk.DS} {F Fd : Nat → Prop} (hd : Dk.IsDisk w dg D Fd) (hFg : ¬ Fd g) (hFv : ∀ k, vs.ownBlock = some k → ¬ Fd k ∧ F k) (hFd : ∀ i, Fd i → F i) (hFF : F g) (hFlt : ∀ i, F i → i < w.heap.size)
    (hb : Box u g (jC g dg v' J') 63) (hr : u.ownsRow 0 3 1 v' ys.length (ics ys)) (hv : v'.ownBlock = vs.ownBlock) (hu : Dk.Upd (fun k => k = g ∨ vs.ownBlock = some k) w u) : JTo w F g dg J' ys D u :=
  ⟨F, ⟨⟨v', Fd, hb, disk_kept hd (fun i hi => hu.block i (hFlt i (hFd i hi)) (fun h => by
      rcases h with h | h
      · exact hFg (h ▸ hi)
      · exact (hFv i h).1 hi)) hu.size, hFg, hr, fun k hk => hFv k (hv ▸ hk), hFd⟩, hFF, fun i hi => Nat.lt_of_lt_of_le (hFlt i hi) hu.size⟩, fun _ hi => .inl hi,
    ⟨hu.os, hu.tape, hu.output, hu.size, fun k hk hn => hu.block k hk (fun h => by
      rcases h with h | h
      · exact hn (h ▸ hFF)
      · exact hn (hFv k h).2)⟩⟩

theorem release_late {w : World} {g dg : Nat} {vs : Value} {J : JS} (h : Box w g (jC g dg vs J) 63) (hb : J.broken = false) (s : Int) (hs : J.synced < s) :
    Calls Tryz.prog 7 #[.pointer (some ⟨g, 0, none⟩), .int .i64 s] w fun r w' => r = .returned (.int .i64 2) ∧ Below w.heap.size w w' := by
  have b := re2_below w g s
  have h' : Box (re2 w g s) g (jC g dg vs J) 63 := h.below b
  have ca := ahead_in34 h' hb (fun e w' => e = 2 ∧ ∃ k, w' = (re2 w g s).drewN k) #[.pointer (some ⟨w.heap.size + 1, 0, none⟩), .pointer (some ⟨w.heap.size, 0, none⟩)] ((release1_at h' s (re2_b w g s) (re2_a w g s)).mono (by
    rintro r w' ⟨rfl, k, rfl⟩
    rw [if_pos hs]
    exact ⟨2, rfl, rfl, k, rfl⟩))
  go_enter Tryz.func7, Tryz.ntmps7
  go_wp2_with fail
  refine Calls.mono ca ?_
  rintro r w1 ⟨e, rfl, rfl, k, rfl⟩
  go_wp2_with fail
  go_ret
  exact ⟨rfl, below_drewN b k⟩
theorem release_broken {w : World} {g dg : Nat} {vs : Value} {J : JS} (h : Box w g (jC g dg vs J) 63) (hb : J.broken = true) (s : Int) :
    Calls Tryz.prog 7 #[.pointer (some ⟨g, 0, none⟩), .int .i64 s] w fun r w' => r = .returned (.int .i64 4) ∧ Below w.heap.size w w' := by
  have b := re2_below w g s
  have h' : Box (re2 w g s) g (jC g dg vs J) 63 := h.below b
  have ca := ahead_broken h' hb (.func (.func 24) #[] #[.pointer (some ⟨w.heap.size + 1, 0, none⟩), .pointer (some ⟨w.heap.size, 0, none⟩)])
  go_enter Tryz.func7, Tryz.ntmps7
  go_wp2_with fail
  refine Calls.mono ca ?_
  rintro r w1 ⟨rfl, rfl⟩
  go_wp2_with fail
  go_ret
  exact ⟨rfl, b⟩
set_option maxRecDepth 100000 in
set_option maxHeartbeats 4000000 in
theorem release_ok {w : World} {g dg : Nat} {J : JS} {xs : List Int} {D : Dk.DS} {F : Nat → Prop} (hJ : JD w g dg J xs D F) (hb : J.broken = false) (s : Int) (hs : ¬ J.synced < s) (h0 : 0 < xs.length) (hx : xs.length ≤ 1000) (hr : ∀ x ∈ xs, 0 ≤ x ∧ x ≤ 33)
    (hn0 : (xs.length : Int) ≤ J.next) (hn1 : J.next ≤ 549755813889) (hR : Rg.R J.S J.T J.U J.H) (c : Nat) (hc : cntTo (J.next - xs.length) s xs.length = c) (hU : (xs.take c).sum ≤ J.U) :
    Calls Tryz.prog 7 #[.pointer (some ⟨g, 0, none⟩), .int .i64 s] w fun r w' => r = .returned (.int .i64 0) ∧ JTo w F g dg { J with T := (J.T + (xs.take c).sum) % J.S, U := J.U - (xs.take c).sum } (xs.drop c) D w' := by
  obtain ⟨⟨vs, Fd, h, hd, hFg, hrow, hFv, hFd⟩, hFF, hFlt⟩ := hJ
  have b := re2_below w g s
  have h' : Box (re2 w g s) g (jC g dg vs J) 63 := h.below b
  have ca := ahead_in34 h' hb (fun e w' => e = 0 ∧ ∃ k, w' = (re2 w g s).drewN k) #[.pointer (some ⟨w.heap.size + 1, 0, none⟩), .pointer (some ⟨w.heap.size, 0, none⟩)] ((release1_at h' s (re2_b w g s) (re2_a w g s)).mono (by
    rintro r w' ⟨rfl, k, rfl⟩
    rw [if_neg hs]
    exact ⟨0, rfl, rfl, k, rfl⟩))
  have hcl : c ≤ xs.length := by rw [← hc]; exact Nat.min_le_left _ _
  have hsum := sum_take_le xs hr c hcl
  have cd := fun u => Rg.drop_ok J.S J.T J.U J.H (xs.take c).sum u hR hsum.1 hU
  unfold Rg.ri at cd
  have hv : ∃ q cap, vs = .slice (some ⟨q, 0, none⟩) xs.length cap ∧ ∀ u : World, u.heap[q]? = w.heap[q]? → ∀ j (hj : j < xs.length), u.cell? ⟨q, 0 + j, none⟩ = some (.int .i64 xs[j]) := by
    rcases hrow.2 with ⟨_, e0⟩ | ⟨q, cap, cur, e1, _, hg, hnc, hcm, hcs, ht⟩
    · omega
    refine ⟨q, cap, e1, fun u hu j hj => ?_⟩
    have hB : Box u q cur 3 := hu.trans hg
    rw [Nat.mul_one] at ht
    have e : cur[j]? = (ics xs)[j]? := by
      rw [← ht, List.getElem?_take, if_pos hj]
      simp
    rw [Nat.zero_add, hB.cell j, e]
    simp [ics, hj]
  obtain ⟨q, cap, rfl, hcells⟩ := hv
  have hqlt : q < w.heap.size := (hrow.lt q rfl).2
  have cu := fun k => upTo_at (w := (re2 w g s).drewN k) xs (b := q) (o := 0) (dg := dg) (c := cap) (J := J) h' rfl (hcells _ (b.block q hqlt)) hr hn0 hn1 hx s
  rw [hc] at cu
  have r2 := owns_kept hrow (fun k hk => b.block k (hFlt k (hFv k hk).2))
  have HR : Hid ((re2 w g s).ownsRow 0 3 1 (.slice (some ⟨q, 0, none⟩) xs.length cap) xs.length (ics xs)) := r2
  have HH : Hid (Box (re2 w g s) g (jC g dg (.slice (some ⟨q, 0, none⟩) xs.length cap) J) 63) := h'
  have HA : Hid (Box (re2 w g s) w.heap.size #[.pointer (some ⟨g, 0, none⟩)] 24) := re2_a w g s
  have y1 := (re2_a w g s).cell 0
  have y2 := (re2_b w g s).cell 0
  simp at y1 y2
  have HD : Hid (Dk.IsDisk w dg D Fd ∧ ¬ Fd g ∧ (∀ k, (Value.slice (some ⟨q, 0, none⟩) xs.length cap).ownBlock = some k → ¬ Fd k ∧ F k) ∧ (∀ i, Fd i → F i) ∧ F g ∧ ∀ i, F i → i < w.heap.size) := ⟨hd, hFg, hFv, hFd, hFF, hFlt⟩
  have HB : Hid (Below w.heap.size w (re2 w g s)) := b
  have HL : Hid (c ≤ xs.length ∧ xs.length ≤ 1000 ∧ 0 < xs.length) := ⟨hcl, hx, h0⟩
  obtain ⟨sm, hsm⟩ : ∃ sm, sm = (xs.take c).sum := ⟨_, rfl⟩
  rw [← hsm] at cu cd ⊢
  clear h h' hd hFg hrow hFv hFd hFF hFlt hcells r2 hsm hsum hcl b hU hr hn0 hn1 hR hc hs hb
  go_enter Tryz.func7, Tryz.ntmps7
  go_wp2_with fail
  refine Calls.mono ca ?_
  rintro r w1 ⟨e, rfl, rfl, k, rfl⟩
  go_wp2_with fail
  refine Calls.mono (cu k) ?_
  rintro r w2 ⟨rfl, k2, rfl⟩
  clear cu ca
  generalize hw2 : ((re2 w g s).drewN k).drewN k2 = w2
  go_upto_region 5 with fail
  have HH2 : Hid (Box w2 g (jC g dg (.slice (some ⟨q, 0, none⟩) xs.length cap) J) 63) := by rw [← hw2]; exact HH.out
  have HA2 : Hid (Box w2 w.heap.size #[.pointer (some ⟨g, 0, none⟩)] 24) := by rw [← hw2]; exact HA.out
  have HR2 : Hid (w2.ownsRow 0 3 1 (.slice (some ⟨q, 0, none⟩) xs.length cap) xs.length (ics xs)) := by rw [← hw2]; exact HR.out
  have HB2 : Hid (Below w.heap.size w w2) := by rw [← hw2]; exact below_drewN (below_drewN HB.out k) k2
  have hqg : q ≠ g := fun e => by
    rcases HR2.out.2 with ⟨e1, _⟩ | ⟨q', cap', cur, e1, _, e2, _⟩
    · cases e1
    · injection e1 with e1
      injection e1 with e1
      injection e1 with e1
      subst e1
      exact HH2.out.ne (e ▸ e2) (by decide) rfl
  have hqa : q ≠ w.heap.size := by omega
  have hga : g ≠ w.heap.size := HH2.out.ne HA2.out (by decide)
  clear y1 y2 HH HA HR HB hw2
  have cD := delete_at (w := w2.drew) HR2.out c HL.out.1 HL.out.2.1 HL.out.2.2
  have HS : Hid (∀ u : World, u.heap[w.heap.size]? = w2.heap[w.heap.size]? → u.cell? ⟨w.heap.size, 0, none⟩ = some (.pointer (some ⟨g, 0, none⟩))) := fun u hu => by
    have y1 := HA2.out.cell 0
    simp at y1
    exact (World.cell?_of_block (a := ⟨w.heap.size, 0, none⟩) hu).trans y1
  have g10 := (box_cells HH2.out).2.2.2.2.2.2.2.2.2.2.1
  refine wp_region_noPanic ?_
  refine wp_region_held_drew (S := fun u => u.cell? ⟨w.heap.size, 0, none⟩ = some (.pointer (some ⟨g, 0, none⟩))) (by kernel_rfl) (HS.out _ rfl) (fun hHeld => ?_)
  refine wpAnyH_take (i := 0) (v := ?_) rfl (by kernel_rfl) (by kernel_rfl) (by kernel_rfl) (fun _ _ _ h => h) (Or.inl ⟨by rfl, ?_⟩) (by assumption) ?_
  rotate_left
  · intro w hSw
    go_simp
    with_reducible rfl
  simp only [Act.put, List.setIfInBounds_toArray, List.set_cons_zero, List.set_cons_succ, List.getElem_toArray, List.getElem_cons_zero]
  refine wpAnyH_take (i := 1) (v := ?_) rfl (by kernel_rfl) (by kernel_rfl) (by kernel_rfl) (fun _ _ _ h => h) (Or.inl ⟨by rfl, ?_⟩) (by assumption) ?_
  rotate_left
  · intro w hSw
    go_simp
    with_reducible rfl
  simp only [Act.put, List.setIfInBounds_toArray, List.set_cons_zero, List.set_cons_succ, List.getElem_toArray, List.getElem_cons_zero, List.getElem_cons_succ]
  refine wpAnyH_take (i := 2) (v := ?_) rfl (by kernel_rfl) (by kernel_rfl) (by kernel_rfl) (fun _ _ _ h => h) (Or.inl ⟨by rfl, ?_⟩) (by assumption) ?_
  rotate_left
  · intro w hSw
    go_simp
    with_reducible rfl
  simp only [Act.put, List.setIfInBounds_toArray, List.set_cons_zero, List.set_cons_succ, List.getElem_toArray, List.getElem_cons_zero, List.getElem_cons_succ]
  refine wpAnyH_take (i := 3) (v := ?_) rfl (by kernel_rfl) (by kernel_rfl) (by kernel_rfl) (fun _ _ _ h => h) (Or.inl ⟨by rfl, ?_⟩) (by assumption) ?_
  rotate_left
  · intro w hSw
    go_simp
    with_reducible rfl
  simp only [Act.put, List.setIfInBounds_toArray, List.set_cons_zero, List.set_cons_succ, List.getElem_toArray, List.getElem_cons_zero, List.getElem_cons_succ]
  refine wpAnyH_take (i := 5) (v := ?_) rfl (by kernel_rfl) (by kernel_rfl) (by kernel_rfl) (fun _ _ _ h => h) (Or.inl ⟨by rfl, ?_⟩) (by assumption) ?_
  rotate_left
  · intro w hSw
    go_simp
    with_reducible rfl
  simp only [Act.put, List.setIfInBounds_toArray, List.set_cons_zero, List.set_cons_succ, List.getElem_toArray, List.getElem_cons_zero, List.getElem_cons_succ]
  refine wpAnyH_ready (rs := [4]) (by kernel_rfl) (by simp) ?_
  refine AllReadyH.cons rfl (fun K hK => ?_) AllReadyH.nil
  go_simp
  refine hK.out _ _ (HS.out _ rfl) (fun hHeld => ?_)
  clear hK K
  refine wpAnyH_ready (rs := [6]) (by kernel_rfl) (by simp) ?_
  refine AllReadyH.cons rfl (fun K hK => ?_) AllReadyH.nil
  go_simp
  refine Calls.mono cD ?_
  rintro r w3 ⟨v', rfl, hr3, hv3, hu3⟩
  obtain ⟨nd, c3, rfl⟩ : ∃ nd c3, v' = .slice (some ⟨q, 0, none⟩) nd c3 := by
    rcases hr3.2 with ⟨e1, _⟩ | ⟨q', cap', cur, e1, _⟩
    · rw [e1] at hv3; cases hv3
    · rw [e1] at hv3
      injection hv3 with hv3
      have e' : q' = q := hv3
      subst e'
      exact ⟨_, _, e1⟩
  have hu3a : w3.heap[w.heap.size]? = w2.heap[w.heap.size]? := hu3.block _ HA2.out.lt (fun e => hqa (by injection e))
  have HH3 : Hid (Box w3 g (jC g dg (.slice (some ⟨q, 0, none⟩) xs.length cap) J) 63) := (hu3.block _ HH2.out.lt (fun e => hqg (by injection e))).trans HH2.out
  have HR3 : Hid (w3.ownsRow 0 3 1 (.slice (some ⟨q, 0, none⟩) nd c3) (xs.drop c).length (ics (xs.drop c))) := hr3
  have HV3 : Hid ((Value.slice (some ⟨q, 0, none⟩) nd c3).ownBlock = some q) := hv3
  have HU3 : Hid (Dk.Upd (fun k => some q = some k) w2.drew w3) := hu3
  have HA3 : Hid (w3.heap[w.heap.size]? = w2.heap[w.heap.size]?) := hu3a
  have g10' := (box_cells HH3.out).2.2.2.2.2.2.2.2.2.2.1
  have f10' := HH3.out.frozen 10
  refine hK.out _ _ (HS.out _ hu3a) (fun hHeld => ?_)
  clear hK K hr3 hv3 hu3 hu3a g10
  refine wpAnyH_take (i := 7) (v := ?_) rfl (by kernel_rfl) (by kernel_rfl) (by kernel_rfl) (fun _ _ _ h => h) (Or.inl ⟨by rfl, ?_⟩) (by assumption) ?_
  rotate_left
  · intro w hSw
    go_simp
    with_reducible rfl
  simp only [Act.put, List.setIfInBounds_toArray, List.set_cons_zero, List.set_cons_succ, List.getElem_toArray, List.getElem_cons_zero, List.getElem_cons_succ]
  refine wpAnyH_take (i := 8) (v := ?_) rfl (by kernel_rfl) (by kernel_rfl) (by kernel_rfl) (fun _ _ _ h => h) (Or.inl ⟨by rfl, ?_⟩) (by assumption) ?_
  rotate_left
  · intro w hSw
    go_simp
    with_reducible rfl
  simp only [Act.put, List.setIfInBounds_toArray, List.set_cons_zero, List.set_cons_succ, List.getElem_toArray, List.getElem_cons_zero, List.getElem_cons_succ]
  refine wpAnyH_ready (rs := [9]) (by kernel_rfl) (by simp) ?_
  refine AllReadyH.cons rfl (fun K hK => ?_) AllReadyH.nil
  go_simp
  have hset : ∀ k, k ≠ g → (w3.setCell ⟨g, 10, none⟩ (.slice (some ⟨q, 0, none⟩) nd c3)).heap[k]? = w3.heap[k]? := fun k hk => heap_setCell_other w3 ⟨g, 10, none⟩ k _ (by simpa using hk)
  refine hK.out _ _ (HS.out _ ((hset _ (Ne.symm hga)).trans HA3.out)) (fun hHeld => ?_)
  clear hK K
  refine wpAnyH_done (by kernel_rfl) ?_ _
  refine NoPanic.normal ?_
  have HH4 : Hid (Box (w3.setCell ⟨g, 10, none⟩ (.slice (some ⟨q, 0, none⟩) nd c3)) g (jC g dg (.slice (some ⟨q, 0, none⟩) nd c3) J) 63) := box_sizes HH3.out (.slice (some ⟨q, 0, none⟩) nd c3)
  have HR4 : Hid ((w3.setCell ⟨g, 10, none⟩ (.slice (some ⟨q, 0, none⟩) nd c3)).ownsRow 0 3 1 (.slice (some ⟨q, 0, none⟩) nd c3) (xs.drop c).length (ics (xs.drop c))) := owns_kept HR3.out (fun k hk => hset k (fun e => hqg (by rw [HV3.out] at hk; injection hk with hk; rw [hk, e])))
  have HU4 : Hid (Dk.Upd (fun k => k = g ∨ some q = some k) w (w3.setCell ⟨g, 10, none⟩ (.slice (some ⟨q, 0, none⟩) nd c3))) := by
    have b := HB2.out
    have u := HU3.out
    have sz := b.size
    refine upd_set ⟨u.os.trans b.os, u.tape.trans b.tape, u.output.trans b.output, Nat.le_trans sz u.size, fun k hk hn => (u.block k (Nat.lt_of_lt_of_le hk sz) (fun e => hn (.inr e))).trans (b.block k hk)⟩ g 10 (.inl (.inl rfl)) (.slice (some ⟨q, 0, none⟩) nd c3)
  have HA4 : Hid (Box (w3.setCell ⟨g, 10, none⟩ (.slice (some ⟨q, 0, none⟩) nd c3)) w.heap.size #[.pointer (some ⟨g, 0, none⟩)] 24) := ((hset _ (Ne.symm hga)).trans HA3.out).trans HA2.out
  clear hHeld g10' f10' hset HH3 HR3 HU3 HA3 HA2 HH2 HR2 HB2 HS cD
  generalize w3.setCell ⟨g, 10, none⟩ (.slice (some ⟨q, 0, none⟩) nd c3) = w4 at HH4 HR4 HU4 HA4 ⊢
  go_upto_region 6 with fail
  have HS : Hid (∀ u : World, u.heap[w.heap.size]? = w4.heap[w.heap.size]? → u.cell? ⟨w.heap.size, 0, none⟩ = some (.pointer (some ⟨g, 0, none⟩))) := fun u hu => by
    have y1 := HA4.out.cell 0
    simp at y1
    exact (World.cell?_of_block (a := ⟨w.heap.size, 0, none⟩) hu).trans y1
  obtain ⟨_, _, _, _, _, _, g6, g7, g8, g9, _, _⟩ := box_cells HH4.out
  refine wp_region_noPanic ?_
  refine wp_region_held_drew (S := fun u => u.cell? ⟨w.heap.size, 0, none⟩ = some (.pointer (some ⟨g, 0, none⟩))) (by kernel_rfl) (HS.out _ rfl) (fun hHeld => ?_)
  refine wpAnyH_take (i := 0) (v := ?_) rfl (by kernel_rfl) (by kernel_rfl) (by kernel_rfl) (fun _ _ _ h => h) (Or.inl ⟨by rfl, ?_⟩) (by assumption) ?_
  rotate_left
  · intro w hSw
    go_simp
    with_reducible rfl
  simp only [Act.put, List.setIfInBounds_toArray, List.set_cons_zero, List.set_cons_succ, List.getElem_toArray, List.getElem_cons_zero]
  refine wpAnyH_take (i := 1) (v := ?_) rfl (by kernel_rfl) (by kernel_rfl) (by kernel_rfl) (fun _ _ _ h => h) (Or.inl ⟨by rfl, ?_⟩) (by assumption) ?_
  rotate_left
  · intro w hSw
    go_simp
    with_reducible rfl
  simp only [Act.put, List.setIfInBounds_toArray, List.set_cons_zero, List.set_cons_succ, List.getElem_toArray, List.getElem_cons_zero, List.getElem_cons_succ]
  refine wpAnyH_take (i := 2) (v := ?_) rfl (by kernel_rfl) (by kernel_rfl) (by kernel_rfl) (fun _ _ _ h => h) (Or.inl ⟨by rfl, ?_⟩) (by assumption) ?_
  rotate_left
  · intro w hSw
    go_simp
    with_reducible rfl
  simp only [Act.put, List.setIfInBounds_toArray, List.set_cons_zero, List.set_cons_succ, List.getElem_toArray, List.getElem_cons_zero, List.getElem_cons_succ]
  refine wpAnyH_take (i := 3) (v := ?_) rfl (by kernel_rfl) (by kernel_rfl) (by kernel_rfl) (fun _ _ _ h => h) (Or.inl ⟨by rfl, ?_⟩) (by assumption) ?_
  rotate_left
  · intro w hSw
    go_simp
    with_reducible rfl
  simp only [Act.put, List.setIfInBounds_toArray, List.set_cons_zero, List.set_cons_succ, List.getElem_toArray, List.getElem_cons_zero, List.getElem_cons_succ]
  refine wpAnyH_take (i := 5) (v := ?_) rfl (by kernel_rfl) (by kernel_rfl) (by kernel_rfl) (fun _ _ _ h => h) (Or.inl ⟨by rfl, ?_⟩) (by assumption) ?_
  rotate_left
  · intro w hSw
    go_simp
    with_reducible rfl
  simp only [Act.put, List.setIfInBounds_toArray, List.set_cons_zero, List.set_cons_succ, List.getElem_toArray, List.getElem_cons_zero, List.getElem_cons_succ]
  refine wpAnyH_ready (rs := [4]) (by kernel_rfl) (by simp) ?_
  refine AllReadyH.cons rfl (fun K hK => ?_) AllReadyH.nil
  go_simp
  refine hK.out _ _ (HS.out _ rfl) (fun hHeld => ?_)
  clear hK K
  refine wpAnyH_ready (rs := [6]) (by kernel_rfl) (by simp) ?_
  refine AllReadyH.cons rfl (fun K hK => ?_) AllReadyH.nil
  go_simp
  refine Calls.mono (cd w4.drew) ?_
  rintro r w5 ⟨rfl, b5⟩
  have b5a : w5.heap[w.heap.size]? = w4.heap[w.heap.size]? := b5.block _ HA4.out.lt
  have HH5 : Hid (Box w5 g (jC g dg (.slice (some ⟨q, 0, none⟩) nd c3) J) 63) := (b5.block _ HH4.out.lt).trans HH4.out
  have HR5 : Hid (w5.ownsRow 0 3 1 (.slice (some ⟨q, 0, none⟩) nd c3) (xs.drop c).length (ics (xs.drop c))) := owns_kept HR4.out (fun k hk => b5.block k (HR4.out.lt k hk).2)
  have HU5 : Hid (Dk.Upd (fun k => k = g ∨ some q = some k) w w5) := by
    have u := HU4.out
    exact ⟨b5.os.trans u.os, b5.tape.trans u.tape, b5.output.trans u.output, Nat.le_trans u.size b5.size, fun k hk hn => (b5.block k (Nat.lt_of_lt_of_le hk u.size)).trans (u.block k hk hn)⟩
  refine hK.out _ _ (HS.out _ b5a) (fun hHeld => ?_)
  clear hK K g6 g7 g8 g9
  refine wpAnyH_take (i := 7) (v := ?_) rfl (by kernel_rfl) (by kernel_rfl) (by kernel_rfl) (fun _ _ _ h => h) (Or.inl ⟨by rfl, ?_⟩) (by assumption) ?_
  rotate_left
  · intro w hSw
    go_simp
    with_reducible rfl
  simp only [Act.put, List.setIfInBounds_toArray, List.set_cons_zero, List.set_cons_succ, List.getElem_toArray, List.getElem_cons_zero, List.getElem_cons_succ]
  refine wpAnyH_take (i := 8) (v := ?_) rfl (by kernel_rfl) (by kernel_rfl) (by kernel_rfl) (fun _ _ _ h => h) (Or.inl ⟨by rfl, ?_⟩) (by assumption) ?_
  rotate_left
  · intro w hSw
    go_simp
    with_reducible rfl
  simp only [Act.put, List.setIfInBounds_toArray, List.set_cons_zero, List.set_cons_succ, List.getElem_toArray, List.getElem_cons_zero, List.getElem_cons_succ]
  refine wpAnyH_ready (rs := [9]) (by kernel_rfl) (by simp) ?_
  refine AllReadyH.cons rfl (fun K hK => ?_) AllReadyH.nil
  go_simp
  refine Calls.mono (turn_ok HH5.out J.S ((J.T + sm) % J.S) (J.U - sm) J.H) ?_
  rintro r w6 ⟨rfl, rfl⟩
  have al := (Below.refl w5.heap.size w5).alloc (Nat.le_refl _) (.cells #[.int .i64 J.S, .int .i64 ((J.T + sm) % J.S), .int .i64 (J.U - sm), .int .i64 J.H] 61)
  have HH6 := box_ring (HH5.out.alloc (.cells #[.int .i64 J.S, .int .i64 ((J.T + sm) % J.S), .int .i64 (J.U - sm), .int .i64 J.H] 61)) J.S ((J.T + sm) % J.S) (J.U - sm) J.H
  have hset : ∀ k, k ≠ g → k < w5.heap.size → (((((w5.alloc (.cells #[.int .i64 J.S, .int .i64 ((J.T + sm) % J.S), .int .i64 (J.U - sm), .int .i64 J.H] 61)).setCell ⟨g, 6, none⟩ (.int .i64 J.S)).setCell ⟨g, 7, none⟩ (.int .i64 ((J.T + sm) % J.S))).setCell ⟨g, 8, none⟩ (.int .i64 (J.U - sm))).setCell ⟨g, 9, none⟩ (.int .i64 J.H)).heap[k]? = w5.heap[k]? := fun k hk hl => by
    rw [heap_setCell_other _ ⟨g, 9, none⟩ k _ (by simpa using hk), heap_setCell_other _ ⟨g, 8, none⟩ k _ (by simpa using hk), heap_setCell_other _ ⟨g, 7, none⟩ k _ (by simpa using hk), heap_setCell_other _ ⟨g, 6, none⟩ k _ (by simpa using hk)]
    exact al.block k hl
  have HR6 : (((((w5.alloc (.cells #[.int .i64 J.S, .int .i64 ((J.T + sm) % J.S), .int .i64 (J.U - sm), .int .i64 J.H] 61)).setCell ⟨g, 6, none⟩ (.int .i64 J.S)).setCell ⟨g, 7, none⟩ (.int .i64 ((J.T + sm) % J.S))).setCell ⟨g, 8, none⟩ (.int .i64 (J.U - sm))).setCell ⟨g, 9, none⟩ (.int .i64 J.H)).ownsRow 0 3 1 (.slice (some ⟨q, 0, none⟩) nd c3) (xs.drop c).length (ics (xs.drop c)) := owns_kept HR5.out (fun k hk => hset k (fun e => hqg (by rw [HV3.out] at hk; injection hk with hk; rw [hk, e])) (HR5.out.lt k hk).2)
  have HU6 : Dk.Upd (fun k => k = g ∨ some q = some k) w (((((w5.alloc (.cells #[.int .i64 J.S, .int .i64 ((J.T + sm) % J.S), .int .i64 (J.U - sm), .int .i64 J.H] 61)).setCell ⟨g, 6, none⟩ (.int .i64 J.S)).setCell ⟨g, 7, none⟩ (.int .i64 ((J.T + sm) % J.S))).setCell ⟨g, 8, none⟩ (.int .i64 (J.U - sm))).setCell ⟨g, 9, none⟩ (.int .i64 J.H)) := by
    have u := HU5.out
    have ub : Dk.Upd (fun k => k = g ∨ some q = some k) w (w5.alloc (.cells #[.int .i64 J.S, .int .i64 ((J.T + sm) % J.S), .int .i64 (J.U - sm), .int .i64 J.H] 61)) := ⟨al.os.trans u.os, al.tape.trans u.tape, al.output.trans u.output, Nat.le_trans u.size al.size, fun k hk hn => (al.block k (Nat.lt_of_lt_of_le hk u.size)).trans (u.block k hk hn)⟩
    exact upd_set (upd_set (upd_set (upd_set ub g 6 (.inl (.inl rfl)) _) g 7 (.inl (.inl rfl)) _) g 8 (.inl (.inl rfl)) _) g 9 (.inl (.inl rfl)) _
  have hSa : (((((w5.alloc (.cells #[.int .i64 J.S, .int .i64 ((J.T + sm) % J.S), .int .i64 (J.U - sm), .int .i64 J.H] 61)).setCell ⟨g, 6, none⟩ (.int .i64 J.S)).setCell ⟨g, 7, none⟩ (.int .i64 ((J.T + sm) % J.S))).setCell ⟨g, 8, none⟩ (.int .i64 (J.U - sm))).setCell ⟨g, 9, none⟩ (.int .i64 J.H)).heap[w.heap.size]? = w4.heap[w.heap.size]? := (hset _ (Ne.symm hga) (Nat.lt_of_lt_of_le HA4.out.lt b5.size)).trans b5a
  obtain ⟨hd, hFg, hFv, hFd, hFF, hFlt⟩ := HD.out
  have fin := JTo.same hd hFg hFv hFd hFF hFlt HH6 HR6 HV3.out HU6
  refine hK.out _ _ (HS.out _ hSa) (fun hHeld => ?_)
  clear hK K HH6 HR6 HU6 hset hSa al
  generalize ((((w5.alloc (.cells #[.int .i64 J.S, .int .i64 ((J.T + sm) % J.S), .int .i64 (J.U - sm), .int .i64 J.H] 61)).setCell ⟨g, 6, none⟩ (.int .i64 J.S)).setCell ⟨g, 7, none⟩ (.int .i64 ((J.T + sm) % J.S))).setCell ⟨g, 8, none⟩ (.int .i64 (J.U - sm))).setCell ⟨g, 9, none⟩ (.int .i64 J.H) = w7 at fin hHeld ⊢
  refine wpAnyH_ready (rs := [10]) (by kernel_rfl) (by simp) ?_
  refine AllReadyH.cons rfl (fun K hK => ?_) AllReadyH.nil
  go_simp
  refine hK.out _ _ hHeld (fun hHeld => ?_)
  clear hK K
  refine wpAnyH_done (by kernel_rfl) ?_ _
  refine NoPanic.normal ?_
  go_wp2_with fail
  go_ret
  exact ⟨rfl, fin⟩
end Go.Proofs.YtglahlbponlepaaGreat.J

/-
  The law's groups: images at the blocks from 30 on.
-/
namespace Go.Proofs.YtglahlbponlepaaGreat.J
open Go.RowKit
open Go.Proofs.YtglahlbponlepaaGreat.Dk (Box)

/-- so many blocks from 30 on -/
def rowL (n : Nat) : List Int := (List.range n).map fun i : Nat => 30 + (i : Int)
theorem rowL_length (n : Nat) : (rowL n).length = n := by simp [rowL]
theorem row_cells {w : World} {B n : Nat} {v : Value} (h : w.ownsRow B 3 1 v n (upL 30 n)) (h0 : 0 < n) : ∃ b c, v = .slice (some ⟨b, 0, none⟩) n c ∧ ∀ j (h : j < (rowL n).length), w.cell? ⟨b, 0 + j, none⟩ = some (.int .i64 (rowL n)[j]) := by
  obtain ⟨a, c, rfl⟩ := Rc.owns_shape h
  obtain ⟨g, rfl, _, _, hc⟩ := Rc.owns_cells h h0
  refine ⟨g, c, rfl, fun j hj => ?_⟩
  rw [rowL_length] at hj
  rw [Nat.zero_add, hc j (by omega)]
  simp [upL, rowL, hj]
/-- the images of the law's group -/
def grpL (N n : Nat) : List (Int × List UInt8) := imgL (rowL n) N n
theorem grpL_length (N n : Nat) : (grpL N n).length = n := imgL_length _ _ _
theorem grpL_fst (N n : Nat) : (grpL N n).map (·.1) = rowL n := by
  refine List.ext_getElem (by simp [grpL_length, rowL_length]) fun i h1 h2 => ?_
  rw [rowL_length] at h2
  simp [grpL, imgL, rowL, h2]
theorem img_len (bs : List Int) (f : Nat → List UInt8) (hf : ∀ i, (f i).length = 4096) (k : Nat) : ∀ x ∈ (List.range k).map (fun i => (bs.getD i 0, f i)), x.2.length = 4096 := fun x hx => by
  obtain ⟨j, _, e⟩ := List.mem_map.1 hx
  rw [← e]
  exact hf j
theorem grpL_ok (e s : Int) (N n : Nat) (h1 : 1 ≤ n) (h2 : n ≤ 32) (hs : Rc.okStamp e s = true) : Rc.okGroup e s (grpL N n) := by
  refine ⟨⟨hs, ?_, ?_⟩, fun i hi => ?_⟩
  · rw [grpL_fst, rowL_length]
    exact ⟨h1, h2⟩
  · rw [grpL_fst, rowL_length]
    intro j hj _
    rw [rowL_length] at hj
    have e : (rowL n)[j] = 30 + (j : Int) := by simp [rowL]
    rw [e]
    refine ⟨by omega, fun hm => ?_⟩
    obtain ⟨i, hi, hie⟩ := List.getElem_of_mem hm
    have hi2 : i < j := by simp [rowL_length] at hi; omega
    simp [rowL] at hie
    omega
  · exact img_len (rowL n) (fun i => Rc.madeL (nk N i : Int) 4096) (fun i => Rc.madeK_length _ _ _) n i hi
end Go.Proofs.YtglahlbponlepaaGreat.J

/-
  SameInts.
-/
namespace Go.Proofs.YtglahlbponlepaaGreat.Dk
open Go.RowKit

/-- These whole numbers lie where a says (of none nothing is asked). -/
def RdI (w : World) (a : Option Addr) (zs : List Int) : Prop :=
  0 < zs.length → ∃ b o, a = some ⟨b, o, none⟩ ∧ ∀ j (h : j < zs.length), w.cell? ⟨b, o + j, none⟩ = some (.int .i64 zs[j])
theorem RdI.below {B : Nat} {w w' : World} {a : Option Addr} {zs : List Int} (h : RdI w a zs) (hb : Below B w w') (hB : w.heap.size ≤ B) : RdI w' a zs := fun hp => by
  obtain ⟨b, o, ha, hc⟩ := h hp
  refine ⟨b, o, ha, fun j hj => ?_⟩
  have hlt : b < w.heap.size := block_lt_of_cell (hc j hj)
  rw [hb.cell (p := ⟨b, o + j, none⟩) (Nat.lt_of_lt_of_le hlt hB)]
  exact hc j hj

set_option maxRecDepth 100000 in
theorem sameInts_self (n ca cb : Nat) (b o b' o' : Nat) (zs : List Int) (w : World) (hl : zs.length = n) (hn : n ≤ 9223372036854775807)
    (h1 : ∀ j (h : j < zs.length), w.cell? ⟨b, o + j, none⟩ = some (.int .i64 zs[j])) (h2 : ∀ j (h : j < zs.length), w.cell? ⟨b', o' + j, none⟩ = some (.int .i64 zs[j])) :
    Calls Tryz.prog 50 #[.slice (some ⟨b, o, none⟩) n ca, .slice (some ⟨b', o', none⟩) n cb] w fun e w' => e = .returned (.bool true) ∧ Below w.heap.size w w' := by
  have Hl : Hid _ := hl
  have H1 : Hid _ := h1
  have H2 : Hid _ := h2
  clear hl h1 h2
  go_enter Tryz.func50, Tryz.ntmps50
  go_wp2_with fail
  go_loopw [5] (fun i wr => ∃ k : Nat, k ≤ n ∧ i = .int .i64 k ∧ ∃ q, wr = w.drewN q) (fun i _ => n - (intOf i).toNat)
  case atStart => exact ⟨0, Nat.zero_le _, rfl, 0, rfl⟩
  case round =>
    obtain ⟨k, hk, rfl, q, rfl⟩ := hrel
    by_cases hlt : k < n
    · have hk' : k < zs.length := by rw [Hl.out]; exact hlt
      have a1 : (w.drewN q).cell? ⟨b, o + k, none⟩ = some (.int .i64 zs[k]) := H1.out k hk'
      have a2 : (w.drewN q).cell? ⟨b', o' + k, none⟩ = some (.int .i64 zs[k]) := H2.out k hk'
      generalize (zs[k]'hk') = z at a1 a2
      have hlt2 : (k : Int) < n := by omega
      obtain ⟨V, hV⟩ : ∃ V, V = w.drewN q := ⟨_, rfl⟩
      rw [← hV] at a1 a2 ⊢
      have HV : Hid _ := hV
      clear hV
      go_wp2_with fail
      go_quiet (fail)
      have hz : ∃ q', V.drewN nq = w.drewN q' := by rw [HV.out]; exact ⟨q + nq, by simp [World.drewN, Nat.add_assoc]⟩
      obtain ⟨q', hq'⟩ := hz
      rw [hq']
      clear hq'
      go_wp2
      go_roundw
      case rel => exact ⟨k + 1, by omega, by go_num, q', rfl⟩
      case measure => simp [intOf]; omega
    · obtain rfl : k = n := by omega
      go_wp2
      go_ret
      exact ⟨rfl, ⟨rfl, rfl, rfl, Nat.le_refl _, fun _ _ => rfl⟩⟩
end Go.Proofs.YtglahlbponlepaaGreat.Dk

/-
  The journal's calls, said of a journal with its disk.
-/
namespace Go.Proofs.YtglahlbponlepaaGreat.J
open Go.RowKit
open Go.Proofs.YtglahlbponlepaaGreat.Dk (Box)

section
variable {w : World} {g dg : Nat} {J : JS} {xs : List Int} {D : Dk.DS} {F : Nat → Prop}
theorem JD.box (h : JD w g dg J xs D F) : ∃ a c, Box w g (jC g dg (.slice a xs.length c) J) 63 := by
  obtain ⟨⟨vs, Fd, h1, _, _, h4, _⟩, _, _⟩ := h
  obtain ⟨a, c, rfl⟩ := Rc.owns_shape h4
  exact ⟨a, c, h1⟩
theorem JD.disk (h : JD w g dg J xs D F) : ∃ Fd, Dk.IsDisk w dg D Fd ∧ ∀ i, Fd i → F i := by
  obtain ⟨⟨vs, Fd, _, h2, _, _, _, h6⟩, _, _⟩ := h
  exact ⟨Fd, h2, h6⟩

theorem flush_to (h : JD w g dg J xs D F) (hb : J.broken = false) (hE : D.operE = 0) (h1 : 1 ≤ J.next) (h2 : J.next ≤ 549755813889) :
    Calls Tryz.prog 6 #[.pointer (some ⟨g, 0, none⟩)] w fun r w' => r = .returned (.int .i64 0) ∧ JTo w F g dg { J with synced := J.next - 1 } xs D.flush w' := by
  obtain ⟨⟨vs, Fd, b1, b2, b3, b4, b5, b6⟩, b7, b8⟩ := h
  refine (flush_good b1 b2 b3 hb hE h1 h2).mono ?_
  rintro r w' ⟨rfl, u, d1, d2, d3, rfl⟩
  have hs : ∀ k, k ≠ g → (u.setCell ⟨g, 5, none⟩ (.int .i64 (J.next - 1))).heap[k]? = u.heap[k]? := fun k hk => heap_setCell_other u ⟨g, 5, none⟩ k _ (by simpa using hk)
  have s := Dk.grown_store u g 5 (.int .i64 (J.next - 1))
  have row : u.ownsRow 0 3 1 vs xs.length (ics xs) := owns_kept b4 (fun k hk => d2.block k (b8 k (b5 k hk).2) (b5 k hk).1)
  have hne : ∀ k, vs.ownBlock = some k → k ≠ g := fun k hk e => by
    obtain ⟨_, cur, hx⟩ := Rc.owns_block row k hk
    subst e
    exact d3.ne hx (by decide) rfl
  have z1 := d2.size
  have z2 := s.size
  refine ⟨rfl, F, ⟨⟨vs, Fd, box_synced d3 _, disk_kept d1 (fun i hi => hs i (fun e => b3 (e ▸ hi))) s.size, b3, owns_kept row (fun k hk => hs k (hne k hk)), b5, b6⟩, b7, fun i hi => by have := b8 i hi; omega⟩, fun i hi => .inl hi, ?_⟩
  refine upd_set ⟨d2.os, d2.tape, d2.output, d2.size, fun k hk hn => d2.block k hk (fun hf => hn (b6 k hf))⟩ g 5 (.inl b7) _
theorem tail_to (h : JD w g dg J xs D F) (h0 : (xs.length : Int) ≤ J.next) (h1 : J.next ≤ 549755813889) :
    Calls Tryz.prog 49 #[.pointer (some ⟨g, 0, none⟩)] w fun r w' => r = .returned (.tuple #[.int .i64 J.T, .int .i64 (J.next - xs.length)]) ∧ ∃ k, w' = w.drewN k := by
  obtain ⟨a, c, hb⟩ := h.box
  exact tail_at hb h0 h1
theorem groups_to (h : JD w g dg J xs D F) (h0 : (xs.length : Int) ≤ J.next) (h1 : J.next ≤ 549755813889) (hn : xs.length ≤ 1000) :
    Calls Tryz.prog 51 #[.pointer (some ⟨g, 0, none⟩)] w fun r w' => ∃ v, r = .returned v ∧ w'.ownsRow w.heap.size 3 1 v xs.length (upL (J.next - xs.length) xs.length) ∧ Below w.heap.size w w' := by
  obtain ⟨a, c, hb⟩ := h.box
  exact groups_at hb h0 h1 hn
theorem pending_to (h : JD w g dg J xs D F) (hl : D.uf.length ≤ 1000000) :
    Calls Tryz.prog 48 #[.pointer (some ⟨dg, 0, none⟩)] w fun e w' => ∃ v, e = .returned v ∧ w'.ownsRow w.heap.size 3 1 v D.uf.length (Dk.pend D.uf D.uf.length) ∧ Below w.heap.size w w' := by
  obtain ⟨Fd, hd, _⟩ := h.disk
  exact Dk.pending_at hd hl
end
theorem row_law (n : Nat) (w : World) (h0 : 0 < n) (hn : n ≤ 1000) :
    Calls Tryz.prog 10 #[.int .i64 (n : Int)] w fun r w' => ∃ b c, r = .returned (.slice (some ⟨b, 0, none⟩) n c) ∧ (∀ j (h : j < (rowL n).length), w'.cell? ⟨b, 0 + j, none⟩ = some (.int .i64 (rowL n)[j])) ∧ Below w.heap.size w w' := by
  refine (row_at n w hn).mono ?_
  rintro r w' ⟨v, rfl, ho, hb⟩
  obtain ⟨b, c, rfl, hc⟩ := row_cells ho h0
  exact ⟨b, c, rfl, hc, hb⟩
theorem images_law (n N : Nat) (w : World) (b c : Nat) (hc : ∀ j (h : j < (rowL n).length), w.cell? ⟨b, 0 + j, none⟩ = some (.int .i64 (rowL n)[j])) (hn : n ≤ 40) (hN : N ≤ 2000000) :
    Calls Tryz.prog 9 #[.slice (some ⟨b, 0, none⟩) n c, .int .i64 (N : Int)] w fun r w' => ∃ a' c', r = .returned (.slice a' n c') ∧ Rc.Imgs w' a' (grpL N n) ∧ Below w.heap.size w w' := by
  refine (images_at w b 0 n c N (rowL n) (rowL_length n) hn hN hc).mono ?_
  rintro r w' ⟨a', c', qs, rfl, ho, hj, hq, hb⟩
  have hlen : qs.length = n := by
    have := congrArg List.length hq
    simpa [imgL_length] using this
  have := Rc.imgs_of ho hj hlen
  rw [hq] at this
  exact ⟨a', c', rfl, this, hb⟩
theorem below_upd {B0 : Nat} {w u v : World} {F : Nat → Prop} (b : Below B0 w u) (h : Dk.Upd F u v) (hF : ∀ i, F i → B0 ≤ i) (hz : B0 ≤ u.heap.size) : Below B0 w v :=
  ⟨h.os.trans b.os, h.tape.trans b.tape, h.output.trans b.output, Nat.le_trans b.size h.size, fun k hk => (h.block k (by omega) (fun hf => by have := hF k hf; omega)).trans (b.block k hk)⟩
end Go.Proofs.YtglahlbponlepaaGreat.J

/-
  The law's disk of 64 blocks and its journal.
-/
namespace Go.Proofs.YtglahlbponlepaaGreat.J
open Go.RowKit
open Go.Proofs.YtglahlbponlepaaGreat.Dk (Box)

theorem opened_at (t : Nat) (w : World) (ht : t ≤ 15) :
    Calls Tryz.prog 4 #[.int .i64 (t : Int)] w fun r w' => ∃ g j F, r = .returned (.tuple #[.pointer (some ⟨g, 0, none⟩), .pointer (some ⟨j, 0, none⟩), .bool true]) ∧ w.heap.size ≤ j ∧ Dk.IsDisk w' g (Dk.DS.new 64 (Dk.nought (64 * 4096))) F ∧ ¬ F j ∧ (∀ i, F i → w.heap.size ≤ i) ∧ Box w' j (jC j g (.slice none 0 0) (opened 64 1 1 t)) 63 ∧ Below w.heap.size w w' := by
  go_enter Tryz.func4, Tryz.ntmps4
  go_wp2_with fail
  refine (Dk.new_at 64 w (by decide) (by decide)).mono ?_
  rintro r w1 ⟨g, rfl, hN⟩
  go_wp2_with fail
  refine (La.ref_good 64 _ (by decide) (by decide)).mono ?_
  rintro r w2 ⟨rfl, b2⟩
  unfold La.layA
  go_wp2_with fail
  obtain ⟨F, ⟨gd, cd, vu, ps, hl⟩, hF, b1⟩ := hN
  have B2 := b1.trans (b2.mono b1.size)
  have B3 := b2.alloc b2.size (.cells #[.int .i64 64, .int .i64 2, .int .i64 (La.lgs 64 : Int), .int .i64 (2 + (La.lgs 64 : Int)), .int .i64 (3 + (La.lgs 64 : Int)), .int .i64 4, .int .i64 (3 + (La.lgs 64 : Int) + 4)] 53)
  have hl' := hl.kept (fun i hi => B3.block i (hl.flt i hi)) B3.size
  have hL : La.lgs 64 = 16 := by decide
  have c := open_good hl' (by show 64 ≤ 64; decide) (by show 64 ≤ 512; decide) 1 1 t (by decide) (by decide) (by show 0 ≤ (t : Int) ∧ (t : Int) ≤ (La.lgs 64 : Int) - 1; rw [hL]; omega)
  refine Calls.mono c ?_
  rintro r w3 ⟨j, hj, rfl, hbx, b3⟩
  have B4 := B2.trans ((((Below.refl w2.heap.size w2).alloc (Nat.le_refl _) _).trans (b3.mono (by simp))).mono B2.size)
  have hlj : Dk.Lies w3 g _ F gd cd vu ps := hl'.kept (fun i hi => b3.block i (hl'.flt i hi)) b3.size
  go_wp2_with fail
  refine bodyPost_ret (v := .tuple #[.pointer (some ⟨g, 0, none⟩), .pointer (some ⟨j, 0, none⟩), .bool true]) (by simp [results, Tryz.results4, go_sem]) rfl ⟨g, j, F, rfl, ?_, ⟨gd, cd, vu, ps, hlj⟩, ?_, hF, hbx, B4⟩
  · have := B2.size
    have h1 : w2.heap.size + 1 ≤ j := by simpa using hj
    omega
  · intro hf
    have h1 := hl'.flt j hf
    omega
end Go.Proofs.YtglahlbponlepaaGreat.J

/-
  The law's awake: the chapter's examples.
-/
namespace Go.Proofs.YtglahlbponlepaaGreat.J
open Go.RowKit
open Go.Proofs.YtglahlbponlepaaGreat.Dk (Box)

/-- a disk of 64 blocks that nothing stops, with writes to these blocks -/
def DK (D : Dk.DS) (ps : List Nat) : Prop := Calm D ∧ D.nb = 64 ∧ D.uf.map (·.1) = ps ∧ D.n ≤ 1000 + ps.length
theorem DK.len {D : Dk.DS} {ps : List Nat} (h : DK D ps) : D.uf.length = ps.length := by
  have := congrArg List.length h.2.2.1
  simpa using this

theorem opened_law (t : Nat) (T : Int) (w : World) (ht : t ≤ 15) (hT : T = (t : Int)) :
    Calls Tryz.prog 4 #[.int .i64 T] w fun r w' => ∃ dg g F D, r = .returned (.tuple #[.pointer (some ⟨dg, 0, none⟩), .pointer (some ⟨g, 0, none⟩), .bool true]) ∧ JD w' g dg ⟨2, 1, 1, 0, 16, T, 0, 0, false⟩ [] D F ∧ DK D [] ∧ (∀ i, F i → w.heap.size ≤ i) ∧ Below w.heap.size w w' := by
  subst hT
  refine (opened_at t w ht).mono ?_
  rintro r w' ⟨dg, g, F, rfl, hj, hd, hFg, hF, hb, B⟩
  have e : opened 64 1 1 (t : Int) = ⟨2, 1, 1, 0, 16, (t : Int), 0, 0, false⟩ := by
    have hL : La.lgs 64 = 16 := by decide
    simp [opened, hL]
  rw [e] at hb
  refine ⟨dg, g, fun i => F i ∨ i = g, _, rfl, ⟨⟨.slice none 0 0, F, hb, hd, hFg, World.ownsRow_nil _ _ _ _, fun k hk => (by cases hk), fun i hi => .inl hi⟩, .inr rfl, fun i hi => ?_⟩, ⟨calm_new _ _, rfl, rfl, ?_⟩, fun i hi => ?_, B⟩
  · rcases hi with hi | rfl
    · obtain ⟨gd, cd, vu, ps, hl⟩ := hd
      exact hl.flt i hi
    · exact hb.lt
  · show 0 ≤ 1000 + 0
    omega
  · rcases hi with hi | rfl
    · exact hF i hi
    · exact hj

/-- a group of the law is appended: the journal then -/
theorem append_law {w : World} {g dg cap : Nat} {al : Option Addr} {J J' : JS} {xs xs' : List Int} {D : Dk.DS} {F : Nat → Prop} {ps ps' : List Nat} (N n : Nat) (hJ : JD w g dg J xs D F) (hD : DK D ps) (hI : Rc.Imgs w al (grpL N n)) (h1 : 1 ≤ n) (h2 : n ≤ 32)
    (hJ' : J' = { J with next := J.next + 1, U := J.U + (n + 1 : Nat), H := J.H - 0 }) (hxs : xs' = xs ++ [((n + 1 : Nat) : Int)]) (hps : ps' = ps ++ (List.range (n + 1)).map fun i => 2 + (((J.T + J.U) % J.S).toNat + i) % J.S.toNat)
    (hb : J.broken = false) (hs : Rc.okStamp J.epoch J.next = true) (hR : Rg.R J.S J.T J.U J.H) (hr : ((n + 1 : Nat) : Int) ≤ Rg.fr J.S J.T J.U J.H) (hlog : J.log = 2) (hS : J.S = 16) (hx : xs.length ≤ 1000) (hl : ps.length ≤ 10000) :
    Calls Tryz.prog 11 #[.pointer (some ⟨g, 0, none⟩), .slice al n cap, .bool false] w fun r w' => r = .returned (.tuple #[.int .i64 J.next, .int .i64 0]) ∧ ∃ D', DK D' ps' ∧ JTo w F g dg J' xs' D' w' := by
  subst hJ' hxs
  have hlen := hD.len
  obtain ⟨d1, d2, d3, d4⟩ := hD
  refine (append_ok (cap := cap) hJ hb (grpL_length N n) hI (grpL_ok _ _ N n h1 h2 hs) hR hr hlog d1 (by omega) (by omega) (by omega) (by omega) hx).mono ?_
  rintro r w' ⟨rfl, h⟩
  refine ⟨rfl, _, ?_, h⟩
  refine ⟨d1, d2, ?_, ?_⟩
  · subst hps
    simp only [grow, List.map_append, d3, wrs, List.map_map]
    rfl
  · subst hps
    show D.n + (n + 1) ≤ _
    simp
    omega

set_option maxRecDepth 100000 in
theorem awake_at (w : World) : Calls Tryz.prog 16 #[] w fun r w' => r = .returned (.bool true) ∧ Below w.heap.size w w' := by
  go_enter Tryz.func16, Tryz.ntmps16
  go_wp2_with fail
  refine (opened_law 14 14 w (by decide) rfl).mono ?_
  rintro r w1 ⟨dg, g, F1, D1, rfl, hJ1, hD1, hF1, B1⟩
  go_wp2_with fail
  refine (row_law 1 w1 (by decide) (by decide)).mono ?_
  rintro r w2 ⟨b2, c2, rfl, hc2, b2b⟩
  go_wp2_with fail
  refine (images_law 1 1 w2 b2 c2 hc2 (by decide) (by decide)).mono ?_
  rintro r w3 ⟨a3, c3, rfl, hI3, b3⟩
  have hJ3 : JD w3 g dg ⟨2, 1, 1, 0, 16, 14, 0, 0, false⟩ [] D1 F1 := (hJ1.below hJ1.flt b2b b2b.size).below (fun i hi => Nat.lt_of_lt_of_le (hJ1.flt i hi) b2b.size) b3 b3.size
  have B3 := B1.trans ((b2b.trans (b3.mono b2b.size)).mono B1.size)
  clear hJ1 B1 b2b b3 hc2
  go_wp2_with fail
  refine (append_law (cap := c3) (J' := ⟨2, 1, 2, 0, 16, 14, 2, 0, false⟩) (xs' := [2]) (ps' := [16, 17]) 1 1 hJ3 hD1 hI3 (by decide) (by decide) rfl rfl rfl rfl rfl (by decide) (by decide) rfl rfl (by decide) (by decide)).mono ?_
  rintro r w4 ⟨rfl, D2, hD2, F2, hJ4, hF2, hU4⟩
  have hF2w : ∀ i, F2 i → w.heap.size ≤ i := fun i hi => (hF2 i hi).elim (hF1 i) (Nat.le_trans B3.size)
  have B4 := below_upd B3 hU4 hF1 B3.size
  clear hJ3 hD1 hI3 B3 hF2 hU4 hF1
  go_wp2_with fail
  refine (row_law 2 w4 (by decide) (by decide)).mono ?_
  rintro r w5 ⟨b5, c5, rfl, hc5, b5b⟩
  go_wp2_with fail
  refine (images_law 2 2 w5 b5 c5 hc5 (by decide) (by decide)).mono ?_
  rintro r w6 ⟨a6, c6, rfl, hI6, b6⟩
  have hJ6 := (hJ4.below hJ4.flt b5b b5b.size).below (fun i hi => Nat.lt_of_lt_of_le (hJ4.flt i hi) b5b.size) b6 b6.size
  have B6 := B4.trans ((b5b.trans (b6.mono b5b.size)).mono B4.size)
  clear hJ4 B4 b5b b6 hc5
  go_wp2_with fail
  refine (append_law (cap := c6) (J' := ⟨2, 1, 3, 0, 16, 14, 5, 0, false⟩) (xs' := [2, 3]) (ps' := [16, 17, 2, 3, 4]) 2 2 hJ6 hD2 hI6 (by decide) (by decide) rfl rfl rfl rfl rfl (by decide) (by decide) rfl rfl (by decide) (by decide)).mono ?_
  rintro r w7 ⟨rfl, D3, hD3, F3, hJ7, hF3, hU7⟩
  have hF3w : ∀ i, F3 i → w.heap.size ≤ i := fun i hi => (hF3 i hi).elim (hF2w i) (Nat.le_trans B6.size)
  have B7 := below_upd B6 hU7 hF2w B6.size
  clear hJ6 hD2 hI6 B6 hF3 hU7 hF2w
  go_wp2_with fail
  refine (pending_to hJ7 (by rw [hD3.len]; decide)).mono ?_
  rintro r w8 ⟨vp, rfl, hp8, b8⟩
  rw [hD3.len] at hp8
  have hpe : Dk.pend D3.uf [16, 17, 2, 3, 4].length = ics [16, 17, 2, 3, 4] := by
    rw [← hD3.len, Dk.pend_all, hD3.2.2.1]
    rfl
  rw [hpe] at hp8
  obtain ⟨ap, cp, rfl⟩ := Rc.owns_shape hp8
  obtain ⟨gp, rfl, hgp, ⟨curp, hbp⟩, hcp⟩ := Rc.owns_cells hp8 (by decide)
  have hgpF : ¬ F3 gp := fun h => by have := hJ7.flt gp h; omega
  have hJ8 := hJ7.below hJ7.flt b8 b8.size
  have B8 := B7.trans (b8.mono B7.size)
  have HBP : Hid (Box w8 gp curp 3) := hbp
  have HCP : Hid (∀ j, j < [16, 17, 2, 3, 4].length * 1 → w8.cell? ⟨gp, j, none⟩ = (ics [16, 17, 2, 3, 4])[j]?) := hcp
  clear hJ7 B7 b8 hp8 hpe hbp hcp
  go_wp2_with fail
  refine (tail_to hJ8 (by decide) (by decide)).mono ?_
  rintro r w9 ⟨rfl, k9, rfl⟩
  have hJ9 : JD (w8.drewN k9) g dg _ _ _ _ := hJ8.kept (fun _ _ => rfl) (Nat.le_refl _)
  clear hJ8
  go_wp2_with fail
  refine (flush_to hJ9 rfl hD3.1.operE (by decide) (by decide)).mono ?_
  rintro r w10 ⟨rfl, F4, hJ10, hF4, hU10⟩
  have B9 : Below w.heap.size w (w8.drewN k9) := below_drewN B8 k9
  have hF4w : ∀ i, F4 i → w.heap.size ≤ i := fun i hi => (hF4 i hi).elim (hF3w i) (Nat.le_trans B9.size)
  have B10 := below_upd B9 hU10 hF3w B9.size
  have e10 : w10.heap[gp]? = w8.heap[gp]? := hU10.block gp HBP.out.lt hgpF
  have hgpF4 : ¬ F4 gp := fun h => (hF4 gp h).elim hgpF (fun h => by have := HBP.out.lt; have e : (w8.drewN k9).heap.size = w8.heap.size := rfl; omega)
  clear hJ9 B8 B9 hU10 hF4 hF3w
  go_wp2_with fail
  refine (release_ok hJ10 rfl 1 (by decide) (by decide) (by decide) (by decide) (by decide) (by decide) (by decide) 1 (by decide) (by decide)).mono ?_
  rintro r w11 ⟨rfl, F5, hJ11, hF5, hU11⟩
  have B11 := below_upd B10 hU11 hF4w B10.size
  have l10 : gp < w10.heap.size := (Array.getElem?_eq_some_iff.1 (e10.trans HBP.out)).1
  have e11 : w11.heap[gp]? = w8.heap[gp]? := (hU11.block gp l10 hgpF4).trans e10
  clear hJ10 B10 hU11 hF5 hF4w hgpF hgpF4
  go_wp2_with fail
  refine (tail_to hJ11 (by decide) (by decide)).mono ?_
  rintro r w12 ⟨rfl, k12, rfl⟩
  have hJ12 : JD (w11.drewN k12) g dg _ _ _ _ := hJ11.kept (fun _ _ => rfl) (Nat.le_refl _)
  have B12 : Below w.heap.size w (w11.drewN k12) := below_drewN B11 k12
  have e12 : (w11.drewN k12).heap[gp]? = w8.heap[gp]? := e11
  clear hJ11 B11 e11 e10 l10
  generalize w11.drewN k12 = w13 at hJ12 B12 e12 ⊢
  go_wp2_with fail
  have l13 : gp < w13.heap.size := (Array.getElem?_eq_some_iff.1 (e12.trans HBP.out)).1
  have cS := Dk.sameInts_self 5 cp 5 gp 0 w13.heap.size 0 [16, 17, 2, 3, 4] (w13.alloc (.cells #[.int .i64 16, .int .i64 17, .int .i64 2, .int .i64 3, .int .i64 4] 3)) rfl (by decide)
    (fun j hj => by
      have h1 := HCP.out j (by simpa using hj)
      rw [Nat.zero_add]
      have h2 : (w13.alloc (.cells #[.int .i64 16, .int .i64 17, .int .i64 2, .int .i64 3, .int .i64 4] 3)).heap[gp]? = w8.heap[gp]? := (heap_alloc_old w13 _ l13).trans e12
      rw [World.cell?_of_block (a := ⟨gp, j, none⟩) h2, h1]
      simp only [List.length_cons, List.length_nil] at hj
      match j, hj with
      | 0, _ => rfl
      | 1, _ => rfl
      | 2, _ => rfl
      | 3, _ => rfl
      | 4, _ => rfl
      | j + 5, hj => omega)
    (fun j hj => by
      have h1 := (Dk.Box.new w13 #[.int .i64 16, .int .i64 17, .int .i64 2, .int .i64 3, .int .i64 4] 3).cell j
      rw [Nat.zero_add, h1]
      simp only [List.length_cons, List.length_nil] at hj
      match j, hj with
      | 0, _ => rfl
      | 1, _ => rfl
      | 2, _ => rfl
      | 3, _ => rfl
      | 4, _ => rfl
      | j + 5, hj => omega)
  refine cS.mono ?_
  rintro r w14 ⟨rfl, b14⟩
  have bb := ((Below.refl w13.heap.size w13).alloc (Nat.le_refl _) (.cells #[.int .i64 16, .int .i64 17, .int .i64 2, .int .i64 3, .int .i64 4] 3)).trans (b14.mono (by simp))
  have hJ14 := hJ12.below hJ12.flt bb bb.size
  have B14 := B12.trans (bb.mono B12.size)
  clear cS b14 bb hJ12 B12 e12 l13 HBP HCP
  go_wp2_with fail
  refine (groups_to hJ14 (by decide) (by decide) (by decide)).mono ?_
  rintro r w15 ⟨v15, rfl, hp15, b15⟩
  obtain ⟨a15, c15, rfl⟩ := Rc.owns_shape hp15
  obtain ⟨g15, rfl, _, ⟨cur15, hb15⟩, hc15⟩ := Rc.owns_cells hp15 (by decide)
  have x15 := hc15 0 (by decide)
  have l15 := hb15.lt
  have B15 := B14.trans (b15.mono B14.size)
  clear hJ14 B14 b15 hp15 hc15
  go_wp2_with fail
  have cT := Dk.sameInts_self 1 c15 1 g15 0 w15.heap.size 0 [2] (w15.alloc (.cells #[.int .i64 2] 3)) rfl (by decide)
    (fun j hj => by
      obtain rfl : j = 0 := by simpa using hj
      exact (World.cell?_of_block (a := ⟨g15, 0, none⟩) (heap_alloc_old w15 _ l15)).trans x15)
    (fun j hj => by
      obtain rfl : j = 0 := by simpa using hj
      exact (Dk.Box.new w15 #[.int .i64 2] 3).cell 0)
  refine cT.mono ?_
  rintro r w16 ⟨rfl, b16⟩
  have B16 := B15.trans ((((Below.refl w15.heap.size w15).alloc (Nat.le_refl _) (.cells #[.int .i64 2] 3)).trans (b16.mono (by simp))).mono B15.size)
  clear cT b16 B15
  go_wp2_with fail
  go_ret
  exact ⟨rfl, B16⟩
end Go.Proofs.YtglahlbponlepaaGreat.J
