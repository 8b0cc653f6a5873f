/-
  Copy.
-/
import Derived.Test.YtagnmmapnpcijaaTold
namespace Go.Proofs.Ytagnmmapnpcijaa
open Go.RowKit

theorem Lies.shape {w : World} {g : Nat} {D : DS} {F : Nat → Prop} {gd cd : Nat} {vu : Value} {ps : List (Nat × Nat × Nat)} (h : Lies w g D F gd cd vu ps) : ∃ av cu, vu = .slice av D.uf.length cu := by
  have hrow := h.row
  rcases hrow.2 with ⟨h1, h2⟩ | ⟨gv, cu, cur, hv, _⟩
  · exact ⟨none, 0, by rw [h1, h2]⟩
  · exact ⟨some ⟨gv, 0, none⟩, cu, hv⟩

set_option maxRecDepth 100000 in
set_option maxHeartbeats 4000000 in
theorem copy_at {g : Nat} {w : World} {D : DS} {F : Nat → Prop} (hd : IsDisk w g D F) (hlim : D.uf.length ≤ 1000000) :
    Calls Try.prog 17 #[.pointer (some ⟨g, 0, none⟩)] w fun e w' => ∃ gc, e = .returned (.pointer (some ⟨gc, 0, none⟩)) ∧ NewDisk w w' gc D.copy := by
  obtain ⟨gd, cd, vu, ps, h⟩ := hd
  have c := isMade_at h
  obtain ⟨_, c1, c2, _⟩ := box_cells h.box
  obtain ⟨av, cu, rfl⟩ := h.shape
  obtain ⟨i0, hi, hz0, hz1, hz2⟩ := info_parts info79
  have hlo := h.ok.lo
  have hhi := h.ok.hi
  have H : Hid (Lies w g D F gd cd (.slice av D.uf.length cu) ps) := h
  obtain ⟨n, hn⟩ : ∃ n, n = D.uf.length := ⟨_, rfl⟩
  rw [← hn] at c2 hlim
  have Hn : Hid _ := hn
  have ck1 := clone_at cd (D.nb * 4096) ⟨gd, 0, none⟩ D.dur w h.ok.len (by omega) (by omega) h.dur.rd
  have hglt := h.box.lt
  clear h hn
  go_enter Try.func17, Try.ntmps17
  go_wp2_with fail
  refine c.mono ?_
  rintro e w' ⟨rfl, rfl⟩
  clear c
  go_wp2_with fail
  refine ck1.mono ?_
  rintro e w1 ⟨gd1, cd1, rfl, hgd1, r1, b1⟩
  clear ck1
  go_wp2_with fail
  refine (holding_at gd1 cd1 D.nb D.dur w1 r1 H.out.ok.len hlo hhi).mono ?_
  rintro e w2 ⟨rfl, hd2, b2⟩
  have B2 := b1.trans (b2.mono b1.size)
  have z1 := b1.size
  obtain ⟨gc, hgc⟩ : ∃ gc, gc = w1.heap.size := ⟨_, rfl⟩
  rw [← hgc] at hd2 ⊢
  have hF2 : ∀ i, (i = gc ∨ i = gd1) → w.heap.size ≤ i := fun i hi => by rcases hi with rfl | rfl; omega; exact hgd1
  have c2' := (B2.cell (p := ⟨g, 2, none⟩) hglt).trans c2
  clear b1 b2 r1 hgc c1 hgd1 z1
  go_wp2_with fail
  go_loopw [20] (fun i wr => ∃ k : Nat, k ≤ n ∧ i = .int .i64 k ∧ (∃ F2 : Nat → Prop, IsDisk wr gc { DS.new D.nb D.dur with uf := D.uf.take k } F2 ∧ ∀ i, F2 i → w.heap.size ≤ i) ∧ Below w.heap.size w wr) (fun i _ => n - (intOf i).toNat)
  case atStart => exact ⟨0, Nat.zero_le _, rfl, ⟨_, hd2, hF2⟩, B2⟩
  case round =>
    obtain ⟨k, hk, rfl, ⟨F2, hdk, hFk⟩, B⟩ := hrel
    clear hd2 hF2 B2 c2'
    by_cases hlt : k < n
    · have hk' : k < D.uf.length := by rw [← Hn.out]; exact hlt
      have hkp : k < ps.length := by rw [H.out.len]; exact hk'
      obtain ⟨gv, cu', cur, hvu, hcu, hmu, hbv, hcells⟩ := H.out.writes (by omega)
      simp only [Value.slice.injEq, true_and] at hvu
      obtain ⟨rfl, rfl⟩ := hvu
      rw [← Hn.out] at hcu
      obtain ⟨a0, a1⟩ := hcells k hk' hkp
      obtain ⟨_, hdat, _, _⟩ := H.out.each k hkp hk'
      obtain ⟨hb1, hb2⟩ := H.out.ok.at k hk'
      have htk : Hid (D.uf.take (k + 1) = D.uf.take k ++ [(D.uf[k].1, D.uf[k].2)]) := List.take_succ_eq_append_getElem hk'
      have Htl : Hid ((D.uf.take k).length = k) := by show _ = _; rw [List.length_take]; omega
      have Hb1 : Hid _ := hb1
      have Hb2 : Hid _ := hb2
      generalize (ps[k]'hkp).2.1 = gk at a1 hdat
      generalize (ps[k]'hkp).2.2 = ck at a1 hdat
      generalize (D.uf[k]'hk').2 = data at hdat Hb2 htk
      generalize (D.uf[k]'hk').1 = bn at a0 Hb1 htk
      have a0' := (B.cell (p := ⟨gv, 0 + k * 2, none⟩) hbv.lt).trans a0
      have a1' := (B.cell (p := ⟨gv, 0 + k * 2 + 1, none⟩) hbv.lt).trans a1
      simp only [Nat.zero_add] at a0' a1'
      have hdat1 := hdat.same (B.block gk hdat.lt)
      obtain ⟨gd2, cd2, vu2, ps2, hl⟩ := hdk
      obtain ⟨av2, cu2, rfl⟩ := hl.shape
      dsimp only at hl
      rw [Htl.out] at hl
      have bA := (Below.refl wr.heap.size wr).alloc (Nat.le_refl _) (.cells #[.int .i64 (bn : Int), .slice (some ⟨gk, 0, none⟩) 4096 ck] 79)
      have xb := Box.new wr #[.int .i64 (bn : Int), .slice (some ⟨gk, 0, none⟩) 4096 ck] 79
      have BA := B.alloc B.size (.cells #[.int .i64 (bn : Int), .slice (some ⟨gk, 0, none⟩) 4096 ck] 79)
      have hdat2 := hdat1.same (bA.block gk hdat1.lt)
      have hl1 := hl.below bA
      have hGF0 : ¬ F2 wr.heap.size := fun h => by have := hl.flt _ h; omega
      obtain ⟨V, hV⟩ : ∃ V, V = wr.alloc (.cells #[.int .i64 (bn : Int), .slice (some ⟨gk, 0, none⟩) 4096 ck] 79) := ⟨_, rfl⟩
      obtain ⟨G, hG⟩ : ∃ G, G = wr.heap.size := ⟨_, rfl⟩
      rw [← hV] at xb BA hdat2 hl1
      rw [← hG] at xb hGF0
      have hGF : ¬ F2 G := hGF0
      clear hGF0
      have HV : Hid _ := hV
      have HG : Hid _ := hG
      clear hV hG bA hl hdat hdat1 a0 a1 hcells hb1 hb2 B
      go_upto_region 7 with fail
      rw [← HV.out, ← HG.out]
      clear HV HG a0' a1'
      refine wp_region_any (by kernel_rfl) ?_
      change wpAny _ _ _ _ _ _ _ (World.drew _)
      refine wpAny_take (i := 0) (v := ?_) rfl (by kernel_rfl) (by kernel_rfl) (by kernel_rfl) (fun _ _ _ h => h) (Or.inl ⟨by rfl, ?_⟩) ?_
      rotate_left
      · intro w
        go_simp
        with_reducible rfl
      refine wpAny_take (i := 1) (v := ?_) rfl (by kernel_rfl) (by kernel_rfl) (by kernel_rfl) (fun _ _ _ h => h) (Or.inl ⟨by rfl, ?_⟩) ?_
      rotate_left
      · intro w
        go_simp
        with_reducible rfl
      refine wpAny_take (i := 2) (v := ?_) rfl (by kernel_rfl) (by kernel_rfl) (by kernel_rfl) (fun _ _ _ h => h) (Or.inl ⟨by rfl, ?_⟩) ?_
      rotate_left
      · intro w
        go_simp
        with_reducible rfl
      refine wpAny_take (i := 3) (v := ?_) rfl (by kernel_rfl) (by kernel_rfl) (by kernel_rfl) (fun _ _ _ h => h) (Or.inl ⟨by rfl, ?_⟩) ?_
      rotate_left
      · intro w
        go_simp
        with_reducible rfl
      refine wpAny_take (i := 5) (v := ?_) rfl (by kernel_rfl) (by kernel_rfl) (by kernel_rfl) (fun _ _ _ h => h) (Or.inl ⟨by rfl, ?_⟩) ?_
      rotate_left
      · intro w
        go_simp
        with_reducible rfl
      refine wpAny_take (i := 7) (v := ?_) rfl (by kernel_rfl) (by kernel_rfl) (by kernel_rfl) (fun _ _ _ h => h) (Or.inl ⟨by rfl, ?_⟩) ?_
      rotate_left
      · intro w
        go_simp
        with_reducible rfl
      simp only [Act.put, List.setIfInBounds_toArray, List.set_cons_zero, List.set_cons_succ, List.getElem_toArray, List.getElem_cons_zero, List.getElem_cons_succ]
      refine wpAny_of_late (C := SlotsCells [(27, .pointer (some ⟨gc, 2, none⟩)), (29, .pointer (some ⟨G, 0, none⟩)), (31, .pointer (some ⟨G, 1, none⟩))] [(⟨gc, 2, none⟩, .slice av2 k cu2), (⟨G, 0, none⟩, .int .i64 (bn : Int)), (⟨G, 1, none⟩, .slice (some ⟨gk, 0, none⟩) 4096 ck)]) (late := [13, 14, 15]) _ _ _ _ ?_
      have xd : Box V.drew G #[.int .i64 (bn : Int), .slice (some ⟨gk, 0, none⟩) 4096 ck] 79 := xb
      have Bd : Below w.heap.size w V.drew := BA.drew
      have ld : Lies V.drew gc { DS.new D.nb D.dur with uf := D.uf.take k } F2 gd2 cd2 (.slice av2 k cu2) ps2 := hl1.below (Below.refl _ _).drew
      have rd : RowB V.drew gk ck data := hdat2
      obtain ⟨W, hW⟩ : ∃ W, W = V.drew := ⟨_, rfl⟩
      rw [← hW] at xd Bd ld rd ⊢
      clear hW xb BA hl1 hdat2
      obtain ⟨_, _, k2, _⟩ := box_cells ld.box
      have y0 := xd.cell 0
      have y1 := xd.cell 1
      simp only [List.getElem?_toArray, List.getElem?_cons_zero, List.getElem?_cons_succ] at y0 y1
      refine wpAnyD_take (i := 4) (v := .slice av2 k cu2) rfl (by kernel_rfl) (by kernel_rfl) (by kernel_rfl) (by kernel_rfl) (fun _ _ _ h => h) ?_ (fun fr u h => (SlotsCells.put 28 _ (by rfl)).1 h) (fun fr u h => (SlotsCells.put 28 _ (by rfl)).2 h) ?_ ?_
      · intro fr u hh
        obtain ⟨e1, e2⟩ := hh.load (s := 27) (p := ⟨gc, 2, none⟩) (v := .slice av2 k cu2) (by simp) (by simp)
        exact ⟨rfl, by simp [execOp, e1, go_sem, e2]⟩
      · refine ⟨fun p hp => ?_, fun q hq => ?_⟩
        · simp at hp
          rcases hp with rfl | rfl | rfl <;> rfl
        · simp at hq
          rcases hq with rfl | rfl | rfl
          · exact k2
          · exact y0
          · exact y1
      simp only [Act.put, List.setIfInBounds_toArray, List.set_cons_zero, List.set_cons_succ, List.getElem_toArray, List.getElem_cons_zero, List.getElem_cons_succ]
      refine wpAnyD_take (i := 6) (v := .int .i64 (bn : Int)) rfl (by kernel_rfl) (by kernel_rfl) (by kernel_rfl) (by kernel_rfl) (fun _ _ _ h => h) ?_ (fun fr u h => (SlotsCells.put 30 _ (by rfl)).1 h) (fun fr u h => (SlotsCells.put 30 _ (by rfl)).2 h) ?_ ?_
      · intro fr u hh
        obtain ⟨e1, e2⟩ := hh.load (s := 29) (p := ⟨G, 0, none⟩) (v := .int .i64 (bn : Int)) (by simp) (by simp)
        exact ⟨rfl, by simp [execOp, e1, go_sem, e2]⟩
      · refine ⟨fun p hp => ?_, fun q hq => ?_⟩
        · simp at hp
          rcases hp with rfl | rfl | rfl <;> rfl
        · simp at hq
          rcases hq with rfl | rfl | rfl
          · exact k2
          · exact y0
          · exact y1
      simp only [Act.put, List.setIfInBounds_toArray, List.set_cons_zero, List.set_cons_succ, List.getElem_toArray, List.getElem_cons_zero, List.getElem_cons_succ]
      refine wpAnyD_take (i := 8) (v := .slice (some ⟨gk, 0, none⟩) 4096 ck) rfl (by kernel_rfl) (by kernel_rfl) (by kernel_rfl) (by kernel_rfl) (fun _ _ _ h => h) ?_ (fun fr u h => (SlotsCells.put 32 _ (by rfl)).1 h) (fun fr u h => (SlotsCells.put 32 _ (by rfl)).2 h) ?_ ?_
      · intro fr u hh
        obtain ⟨e1, e2⟩ := hh.load (s := 31) (p := ⟨G, 1, none⟩) (v := .slice (some ⟨gk, 0, none⟩) 4096 ck) (by simp) (by simp)
        exact ⟨rfl, by simp [execOp, e1, go_sem, e2]⟩
      · refine ⟨fun p hp => ?_, fun q hq => ?_⟩
        · simp at hp
          rcases hp with rfl | rfl | rfl <;> rfl
        · simp at hq
          rcases hq with rfl | rfl | rfl
          · exact k2
          · exact y0
          · exact y1
      simp only [Act.put, List.setIfInBounds_toArray, List.set_cons_zero, List.set_cons_succ, List.getElem_toArray, List.getElem_cons_zero, List.getElem_cons_succ]
      have hgW : gc < W.heap.size := ld.box.lt
      have hGW : G < W.heap.size := xd.lt
      refine wpAnyD_one (i := 9) (by kernel_rfl) rfl (fun K hK => ?_)
      go_simp
      refine (clone_at ck 4096 ⟨gk, 0, none⟩ data W Hb2.out (by omega) (by omega) rd.rd).mono ?_
      rintro e w3 ⟨gn, cn, rfl, hgn, rn, b3⟩
      have k2' := (b3.cell (p := ⟨gc, 2, none⟩) hgW).trans k2
      have y0' := (b3.cell (p := ⟨G, 0, none⟩) hGW).trans y0
      have y1' := (b3.cell (p := ⟨G, 1, none⟩) hGW).trans y1
      refine hK _ _ ⟨?_, ?_⟩
      · refine .inr ⟨fun p hp => ?_, fun q hq => ?_⟩
        · simp at hp
          rcases hp with rfl | rfl | rfl <;> rfl
        · simp at hq
          rcases hq with rfl | rfl | rfl
          · exact k2'
          · exact y0'
          · exact y1'
      clear hK K
      refine wpAnyD_one (i := 10) (by kernel_rfl) rfl (fun K hK => ?_)
      go_simp
      refine hK _ _ ⟨?_, ?_⟩
      · refine .inr ⟨fun p hp => ?_, fun q hq => ?_⟩
        · simp at hp
          rcases hp with rfl | rfl | rfl <;> rfl
        · simp at hq
          rcases hq with rfl | rfl | rfl
          · exact k2'
          · exact y0'
          · exact y1'
      clear hK K
      have bA := (Below.refl w3.heap.size w3).alloc (Nat.le_refl _) (.cells #[.int .i64 (bn : Int), .slice (some ⟨gn, 0, none⟩) 4096 cn] 79)
      have x4 := Box.new w3 #[.int .i64 (bn : Int), .slice (some ⟨gn, 0, none⟩) 4096 cn] 79
      have rn4 := rn.same (bA.block gn rn.lt)
      have B4 := b3.trans (bA.mono b3.size)
      have k2f := (B4.cell (p := ⟨gc, 2, none⟩) hgW).trans k2
      have y0f := (B4.cell (p := ⟨G, 0, none⟩) hGW).trans y0
      have y1f := (B4.cell (p := ⟨G, 1, none⟩) hGW).trans y1
      refine wpAnyD_one (i := 11) (by kernel_rfl) rfl (fun K hK => ?_)
      go_simp
      refine hK _ _ ⟨?_, ?_⟩
      · refine .inr ⟨fun p hp => ?_, fun q hq => ?_⟩
        · simp at hp
          rcases hp with rfl | rfl | rfl <;> rfl
        · simp at hq
          rcases hq with rfl | rfl | rfl
          · exact k2f
          · exact y0f
          · exact y1f
      clear hK K
      obtain ⟨V4, hV⟩ : ∃ V, V = w3.alloc (.cells #[.int .i64 (bn : Int), .slice (some ⟨gn, 0, none⟩) 4096 cn] 79) := ⟨_, rfl⟩
      obtain ⟨G4, hG⟩ : ∃ G, G = w3.heap.size := ⟨_, rfl⟩
      rw [← hV] at x4 rn4 B4 k2f y0f y1f ⊢
      have hG4W : W.heap.size ≤ G4 := by rw [hG]; exact b3.size
      rw [← hG] at x4 ⊢
      clear hV hG bA k2' y0' y1' rn b3
      have l4 := ld.below B4
      have row4 : V4.ownsRow 0 79 2 (.slice av2 k cu2) k (wcs ps2) := by
        have := l4.row
        dsimp only at this
        rw [Htl.out] at this
        exact this
      refine wpAnyD_one (i := 12) (by kernel_rfl) rfl (fun K hK => ?_)
      refine step_append_where rfl (.tmp 28) (.tmp 35) 63 rfl 79 i0 (.agg #[.int .i64 0, .slice none 0 0]) 2 32 Try.underlying63 hi hz0 hz1 hz2 rfl (by decide) (.slice av2 k cu2) k (wcs ps2) rfl row4 ⟨G4, 0, none⟩ 1 1 [.int .i64 (bn : Int), .slice (some ⟨gn, 0, none⟩) 4096 cn] rfl rfl ?_ ?_ (by unfold maxLen; omega) (by omega) ?_
      · intro j u hj
        match j, hj with
        | 0, hj => simp at hj; subst hj; rw [Addr.add_lit]; exact x4.cell 0
        | 1, hj => simp at hj; subst hj; rw [Addr.add_lit]; exact x4.cell 1
      · intro u hu
        simp at hu
        rcases hu with rfl | rfl <;> rfl
      intro v5 w5 o5 g5 hw5
      have hVs : W.heap.size ≤ V4.heap.size := B4.size
      obtain ⟨F5, hl5, hF5, hu5, hbx⟩ := ld.added B4 bn gn cn data rn4 hgn Hb1.out Hb2.out (by
        show World.ownsRow _ _ _ _ _ ((D.uf.take k).length + 1) _
        rw [wcs_snoc, Htl.out]
        exact o5) g5 (fun q hq => by rcases hw5 q hq with h | h; exact .inl h; exact .inr (by omega))
      obtain ⟨av5, cu5, rfl⟩ : ∃ av cu, v5 = .slice av (k + 1) cu := by
        rcases o5.2 with ⟨_, h2⟩ | ⟨gv, cu, cur, hv, _⟩
        · omega
        · exact ⟨some ⟨gv, 0, none⟩, cu, hv⟩
      obtain ⟨_, _, k5, _⟩ := box_cells hbx
      have hxG := xd.below B4
      have hGrow : some G ≠ (Value.slice av2 k cu2).ownBlock := by
        intro e
        rcases row4.2 with ⟨h1, _⟩ | ⟨gv', cu', cur', hv', _, hgv', _, _, hcs', htk'⟩
        · simp only [Value.slice.injEq] at h1
          rw [h1.1] at e
          simp [Value.ownBlock] at e
        · exact hGF (by rw [hv'] at e; simp [Value.ownBlock] at e; exact ld.fu G (by rw [hv']; simp [Value.ownBlock, e]))
      have y0g := (World.cell?_of_block (a := ⟨G, 0, none⟩) (g5.block G hxG.lt hGrow)).trans y0f
      have y1g := (World.cell?_of_block (a := ⟨G, 1, none⟩) (g5.block G hxG.lt hGrow)).trans y1f
      refine hK _ _ ⟨?_, ?_⟩
      · refine .inr ⟨fun p hp => ?_, fun q hq => ?_⟩
        · simp at hp
          rcases hp with rfl | rfl | rfl <;> rfl
        · simp at hq
          rcases hq with rfl | rfl | rfl
          · exact k5
          · exact y0g
          · exact y1g
      clear hK K
      simp only [Act.put, List.setIfInBounds_toArray]
      refine wpAnyD_one (i := 13) (by kernel_rfl) rfl (fun K hK => ?_)
      go_simp
      refine hK _ _ ⟨.inl rfl, ?_⟩
      clear hK K
      refine wpAnyD_one (i := 14) (by kernel_rfl) rfl (fun K hK => ?_)
      go_simp
      refine hK _ _ ⟨.inl rfl, ?_⟩
      clear hK K
      have f2 := hbx.frozen 2
      refine wpAnyD_one (i := 15) (by kernel_rfl) rfl (fun K hK => ?_)
      go_simp
      refine hK _ _ ⟨.inl rfl, ?_⟩
      clear hK K
      refine wpAnyD_done (by kernel_rfl) ?_ _
      have hsz : w.heap.size ≤ W.heap.size := Bd.size
      have B6 := Bd.trans (hu5.below (B := w.heap.size) hFk hsz)
      have hd6 : IsDisk (w5.setCell ⟨gc, 2, none⟩ (.slice av5 (k + 1) cu5)) gc { DS.new D.nb D.dur with uf := D.uf.take (k + 1) } F5 := by
        rw [htk.out]
        exact ⟨_, _, _, _, hl5⟩
      generalize w5.setCell ⟨gc, 2, none⟩ (.slice av5 (k + 1) cu5) = X at hd6 B6 ⊢
      clear hl5 hu5 hbx k5 y0g y1g hxG x4 rn4 B4 k2f y0f y1f l4 row4 o5 g5 hw5 f2 xd ld rd k2 y0 y1
      go_wp2
      go_roundw
      case rel => exact ⟨k + 1, by omega, by go_num, ⟨F5, hd6, fun i hi => by rcases hF5 i hi with h | h; exact hFk i h; omega⟩, B6⟩
      case measure => simp [intOf]; omega
    · obtain rfl : k = n := by omega
      have hall : D.uf.take k = D.uf := List.take_of_length_le (by rw [← Hn.out]; exact Nat.le_refl _)
      rw [hall] at hdk
      obtain ⟨gd2, cd2, vu2, ps2, hl⟩ := hdk
      obtain ⟨_, _, _, _, p4, p5, p6, p7, p8⟩ := box_cells (H.out.below B).box
      obtain ⟨_, _, _, _, q4, q5, q6, q7, q8⟩ := box_cells hl.box
      have f4 := hl.box.frozen 4
      have f5 := hl.box.frozen 5
      have f6 := hl.box.frozen 6
      have f7 := hl.box.frozen 7
      have f8 := hl.box.frozen 8
      have b9 := ((((hl.box.store 4 (.bool D.gone)).store 5 (.bool D.arm.set)).store 6 (.int .i64 (D.arm.left : Int))).store 7 (.bool D.fail.set)).store 8 (.int .i64 (D.fail.left : Int))
      have g9 := grown_trans (grown_trans (grown_trans (grown_trans (grown_store wr gc 4 (.bool D.gone)) (grown_store _ gc 5 (.bool D.arm.set))) (grown_store _ gc 6 (.int .i64 (D.arm.left : Int)))) (grown_store _ gc 7 (.bool D.fail.set))) (grown_store _ gc 8 (.int .i64 (D.fail.left : Int)))
      have hl9 := hl.turned (D' := D.copy) g9 b9 rfl rfl H.out.ok.copy
      have hgcw := hFk gc hl.fg
      have B9 : Below w.heap.size w _ := B.grown g9 B.size (fun q e => by cases e; exact hgcw)
      clear b9 g9 hl
      go_wp2
      go_ret
      exact ⟨gc, rfl, F2, ⟨_, _, _, _, hl9⟩, hFk, B9⟩
end Go.Proofs.Ytagnmmapnpcijaa
