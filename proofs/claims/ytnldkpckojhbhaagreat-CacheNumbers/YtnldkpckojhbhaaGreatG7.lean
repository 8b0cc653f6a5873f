/-
  DkStand, SSmall, SRange, SGroup, SProd, SHands, SInv, SImg, SAhead, SWr, SPlain, SCrash, HIter, HMap, HMade, HHome, HSort, HRising, HHomeAt: put together.
-/
import Derived.Test.YtnldkpckojhbhaaGreatG6
import Derived.Deep.RegionHeld3
import Derived.RangeFuncNested
import Derived.RangeFuncBound
import Derived.RangeFuncCalls
import Derived.RangeFuncLeaves
import Derived.Shelf.Abstract
import Derived.Shelf.RegionOpen
import Derived.WalkKit
import Derived.OwnWalkIn
import Derived.TacticsInMore
import Derived.LoopNIn
import Derived.LoopIn
import Derived.Deep.AppendLies
import Derived.Shelf.SlIterI.Nil
import Derived.Shelf.SortM.Plain
import Derived.Shelf.SortM.SortNone
import Derived.Test.YtnldkpckojhbhaaGreatRows
import Derived.Maps.OwnSet
import Derived.Maps.Range
import Derived.Lib.SlKeysI
/-
  standing, Read.
-/
namespace Go.Proofs.YtnldkpckojhbhaaGreat.Dk
open Go.RowKit Go.Shelf
attribute [local go_sem] Oper.semAt_some

theorem Lies.wrs {w : World} {g : Nat} {D : DS} {F : Nat → Prop} {gd cd : Nat} {vu : Value} {ps : List (Nat × Nat × Nat)} (h : Lies w g D F gd cd vu ps) (n₀ : Nat) (hn : w.heap.size ≤ n₀) : Wrs n₀ w vu ps := by
  by_cases h0 : 0 < D.uf.length
  · obtain ⟨gv, cu, cur, rfl, _, _, hbv, hc⟩ := h.writes h0
    refine .inr ⟨gv, cu, by rw [h.len], Nat.lt_of_lt_of_le hbv.lt hn, fun j hj => ?_⟩
    have hj' : j < D.uf.length := by rw [← h.len]; exact hj
    obtain ⟨a, b⟩ := hc j hj' hj
    obtain ⟨e, _⟩ := h.each j hj hj'
    exact ⟨by rw [e]; exact a, b⟩
  · obtain ⟨av, cu, rfl⟩ := h.shape
    have e : D.uf.length = 0 := by omega
    exact .inl ⟨av, cu, by rw [e], List.eq_nil_of_length_eq_zero (by rw [h.len, e])⟩

theorem lastOf_met {D : DS} {ps : List (Nat × Nat × Nat)} (nn : Nat) (hl : ps.length = D.uf.length) (he : ∀ k (h : k < ps.length) (h' : k < D.uf.length), ps[k].1 = D.uf[k].1) (k : Nat) (hk : k ≤ ps.length) (hno : ∀ p ∈ downs ps k, p.2.1 ≠ nn) : lastOf D.uf nn D.uf.length = lastOf D.uf nn (D.uf.length - k) := by
  induction k with
  | zero => rfl
  | succ k ih =>
    have h1 := ih (by omega) (fun p hp => hno p (by rw [downs_succ]; exact List.mem_append_left _ hp))
    rw [h1]
    obtain ⟨m, hm⟩ : ∃ m, D.uf.length - k = m + 1 := ⟨D.uf.length - k - 1, by omega⟩
    have hm' : D.uf.length - (k + 1) = m := by omega
    have hlt : m < D.uf.length := by omega
    have hltp : m < ps.length := by omega
    rw [hm, hm', lastOf_succ D.uf nn m hlt]
    have h2 := hno (comes ps k) (by rw [downs_succ]; simp)
    have e1 : comes ps k = (m, ps[m]) := by
      unfold comes
      have : ps.length - 1 - k = m := by omega
      rw [this, List.getElem?_eq_getElem hltp]
      rfl
    rw [e1] at h2
    rw [if_neg (by rw [← he m hltp hlt]; exact h2)]

set_option maxRecDepth 100000 in
set_option maxHeartbeats 2000000 in
theorem standing_at {g : Nat} {w : World} {D : DS} {F : Nat → Prop} {gd cd : Nat} {vu : Value} {ps : List (Nat × Nat × Nat)} (h : Lies w g D F gd cd vu ps) (nn : Nat) (hn : nn < D.nb) (hlim : D.uf.length ≤ 1000000) :
    Calls Tryz.prog 99 #[.pointer (some ⟨g, 0, none⟩), .int .i64 (nn : Int)] w fun e w' => (∃ b o cap, e = .returned (.slice (some ⟨b, o, none⟩) 4096 cap) ∧ Rd w (some ⟨b, o, none⟩) (D.stand nn)) ∧ Below w.heap.size w w' := by
  refine (callsIn_wide (n := 3)).1 ?_
  obtain ⟨_, c1, c2, _⟩ := box_cells h.box
  have hglt := h.box.lt
  obtain ⟨av, cu, rfl⟩ := h.shape
  have B0 := ((Below.refl w.heap.size w).alloc (Nat.le_refl _) (.cells #[.int .i64 (nn : Int)] 3)).alloc (by simp) (.cells #[.slice none 0 0] 37)
  have k2 := (B0.cell (p := ⟨g, 2, none⟩) hglt).trans c2
  have hstand : Hid (D.stand nn = (lastOf D.uf nn D.uf.length).getD (blk D.dur nn)) := rfl
  have hmet : Hid _ := @lastOf_met D ps nn h.len (fun k h1 h2 => (h.each k h1 h2).1)
  have hdur : Hid (Rd w (some ⟨gd, 0 + nn * 4096, none⟩) (blk D.dur nn)) := h.dur.rd.part (nn * 4096) 4096
  have hcd : D.nb * 4096 ≤ cd ∧ cd ≤ 9223372036854775807 := by
    obtain ⟨_, _, q1, q2, _⟩ := h.dur
    rw [h.ok.len] at q1
    unfold maxLen at q2
    omega
  have hhi := h.ok.hi
  generalize D.stand nn = ST at hstand ⊢
  refine callsIn_of_wp_marks Tryz.func99 rfl trivial ?_ rfl
  simp only [Tryz.ntmps99, List.size_toArray, List.length_cons, List.length_nil, Nat.reduceAdd, Nat.reduceSub, Array.replicate_succ, Array.replicate_zero, List.push_toArray, List.append_toArray, List.nil_append, List.cons_append]
  gi_wp2_with fail
  refine ⟨trivial, ?_⟩
  refine (back_in 2 _ _ _ _).mono ?_
  rintro e w' ⟨rfl, rfl⟩
  gi_wp2_with fail
  have bN := (Box.new w #[.int .i64 (nn : Int)] 3)
  have bR := Box.new (w.alloc (.cells #[.int .i64 (nn : Int)] 3)) #[.slice none 0 0] 37
  have bS := Box.new ((w.alloc (.cells #[.int .i64 (nn : Int)] 3)).alloc (.cells #[.slice none 0 0] 37)) #[.slice av D.uf.length cu] 128
  have s1 : (w.alloc (.cells #[.int .i64 (nn : Int)] 3)).heap.size = w.heap.size + 1 := by simp
  have s2 : ((w.alloc (.cells #[.int .i64 (nn : Int)] 3)).alloc (.cells #[.slice none 0 0] 37)).heap.size = w.heap.size + 2 := by simp
  rw [s1] at bR
  rw [s2] at bS
  have B1 := B0.alloc B0.size (.cells #[.slice av D.uf.length cu] 128)
  have bN2 := (bN.alloc (.cells #[.slice none 0 0] 37)).alloc (.cells #[.slice av D.uf.length cu] 128)
  have bR2 := bR.alloc (.cells #[.slice av D.uf.length cu] 128)
  obtain ⟨W0, hW0⟩ : ∃ W, W = ((w.alloc (.cells #[.int .i64 (nn : Int)] 3)).alloc (.cells #[.slice none 0 0] 37)).alloc (.cells #[.slice av D.uf.length cu] 128) := ⟨_, rfl⟩
  have s3 : W0.heap.size = w.heap.size + 3 := by rw [hW0]; simp
  have hs3 : w.heap.size + 3 ≤ W0.heap.size := by omega
  rw [← hW0] at bN2 bR2 bS B1 ⊢
  clear bN bR s1 s2 B0 hW0 k2
  have hwr := (h.wrs (w.heap.size + 3) (by omega))
  have hwr0 : Wrs (w.heap.size + 3) W0 (.slice av D.uf.length cu) ps := by
    rcases h.wrs w.heap.size (Nat.le_refl _) with q | ⟨b, cap, hv, hlt, hc⟩
    · exact .inl q
    · exact .inr ⟨b, cap, hv, by omega, fun j hj => by
        obtain ⟨q0, q1⟩ := hc j hj
        exact ⟨(B1.cell (p := ⟨b, 0 + j * 2, none⟩) hlt).trans q0, (B1.cell (p := ⟨b, 0 + j * 2 + 1, none⟩) hlt).trans q1⟩⟩
  clear hwr
  refine wpIn_rangeFunc_ownH (α := Wr) rfl (by omega) (gf := 209) (lb := #[.pointer (some ⟨w.heap.size + 2, 0, none⟩)]) rfl trivial (enters_of Tryz.func209 (by kernel_rfl) rfl)
    (back_stops (3 - 1) (by omega) (w.heap.size + 2) (w.heap.size + 3) _ ps (by rw [h.len]; exact hlim) W0 (by omega) hs3 (bS.cell 0) hwr0) belowK_t (belowK_b (by omega)) (Below.refl _ _) (fun _ => rfl)
    (fun pre W => ((∀ p ∈ pre, p.2.1 ≠ nn) ∧ W.cell? ⟨w.heap.size, 0, none⟩ = some (.int .i64 (nn : Int)) ∧ W.cell? ⟨w.heap.size + 1, 0, none⟩ = some (.slice none 0 0) ∧ W.frozen? ⟨w.heap.size + 1, 0, none⟩ = false ∧ w.heap.size + 3 ≤ W.heap.size) ∧ Below w.heap.size w W)
    (fun c pre W => (c = .ret ∧ ∃ ini last, pre = ini ++ [last] ∧ (∀ p ∈ ini, p.2.1 ≠ nn) ∧ last.2.1 = nn ∧ W.cell? ⟨w.heap.size + 1, 0, none⟩ = some (.slice (some ⟨last.2.2.1, 0, none⟩) 4096 last.2.2.2)) ∧ Below w.heap.size w W)
    (OwnFrom.and (Own.from (fun s A B row hs hg hr => ⟨hs.1, cell_kept hs.2.1 hg hr, cell_kept hs.2.2.1 hg hr, (frozen_kept hs.2.2.1 hg hr).trans hs.2.2.2.1, Nat.le_trans hs.2.2.2.2 hg.size⟩) _) (ownFrom_below (Nat.le_refl _) (by omega)))
    (fun c => OwnFrom.and (Own.from (fun s A B row hs hg hr => by obtain ⟨hc, ini, last, e1, e2, e3, e4⟩ := hs; exact ⟨hc, ini, last, e1, e2, e3, cell_kept e4 hg hr⟩) _) (ownFrom_below (Nat.le_refl _) (by omega)))
    ⟨⟨by simp, bN2.cell 0, bR2.cell 0, bR2.frozen 0, hs3⟩, B1⟩
    (fun x a' W => ∃ Bx, W.cell? ⟨Bx, 0, none⟩ = some (.int .i64 (x.2.1 : Int)) ∧ W.cell? ⟨Bx, 1, none⟩ = some (.slice (some ⟨x.2.2.1, 0, none⟩) 4096 x.2.2.2) ∧ a' = { tmps := #[.pointer (some ⟨g, 0, none⟩), .int .i64 (nn : Int), undef, .pointer (some ⟨w.heap.size, 0, none⟩), .pointer (some ⟨w.heap.size + 1, 0, none⟩), undef, .pointer (some ⟨Bx, 0, none⟩), .pointer (some ⟨g, 0, none⟩), .pointer (some ⟨g, 0, none⟩), .pointer (some ⟨g, 2, none⟩), .slice av D.uf.length cu, .func (.func 209) #[] #[.pointer (some ⟨w.heap.size + 2, 0, none⟩)], .int .i64 (x.1 : Int), (.agg #[.int .i64 (x.2.1 : Int), .slice (some ⟨x.2.2.1, 0, none⟩) 4096 x.2.2.2]), undef, undef, undef, undef, undef, undef, undef, undef, undef, undef, undef, undef], defers := [] })
    (fun x a' => Own.from (fun s A B row hs hg hr => by obtain ⟨Bx, e1, e2, e3⟩ := hs; exact ⟨Bx, cell_kept e1 hg hr, cell_kept e2 hg hr, e3⟩) _) ?assign ?body ?done ?stop
  case assign =>
    rintro l pre x W K ⟨⟨hp, hcn, hcr, hfr, hsz⟩, hB⟩ hK
    dsimp only [encW]
    have bAl := (Below.refl W.heap.size W).alloc (Nat.le_refl _) (.cells #[.int .i64 (x.2.1 : Int), .slice (some ⟨x.2.2.1, 0, none⟩) 4096 x.2.2.2] 136)
    gi_wp2
    refine hK _ _ ((KeepsOthers.alloc _ _).from _) ((Below.refl _ W).alloc hsz _) ⟨⟨hp, (bAl.cell (p := ⟨w.heap.size, 0, none⟩) (by show w.heap.size < _; omega)).trans hcn, (bAl.cell (p := ⟨w.heap.size + 1, 0, none⟩) (by show w.heap.size + 1 < _; omega)).trans hcr, (bAl.frozen (p := ⟨w.heap.size + 1, 0, none⟩) (by show w.heap.size + 1 < _; omega)).trans hfr, by simp; omega⟩, hB.alloc hB.size _⟩ ⟨W.heap.size, ?_, ?_, rfl⟩
    · exact (Box.new W #[.int .i64 (x.2.1 : Int), .slice (some ⟨x.2.2.1, 0, none⟩) 4096 x.2.2.2] 136).cell 0
    · exact (Box.new W #[.int .i64 (x.2.1 : Int), .slice (some ⟨x.2.2.1, 0, none⟩) 4096 x.2.2.2] 136).cell 1
  case body =>
    rintro l pre x a' W hl ⟨r, hr⟩ ⟨⟨hp, hcn, hcr, hfr, hsz⟩, hB⟩ ⟨Bx, e1, e2, rfl⟩ hlt
    by_cases hx : x.2.1 = nn
    · have hx' : ((x.2.1 : Int) == (nn : Int)) = true := by rw [hx]; simp
      gi_wp2
      exact ⟨(KeepsOthers.setCell _ _ _).from _, ⟨rfl, pre, x, rfl, hp, hx, World.cell?_setCell_same' _ _ _ (by rw [hcr]; rfl)⟩, hB.setCell (p := ⟨w.heap.size + 1, 0, none⟩) (by simp) _⟩
    · have hx' : ((x.2.1 : Int) == (nn : Int)) = false := by simp; omega
      gi_wp2
      exact ⟨KeepsFrom.refl _ _, Below.refl _ _, ⟨fun p hp' => (List.mem_append.1 hp').elim (hp p) (fun e => by simp at e; subst e; exact hx), hcn, hcr, hfr, hsz⟩, hB⟩
  case done =>
    rintro D' ys W hD rfl ⟨⟨hne, hcn, hcr, hfr, hsz⟩, hB⟩ hK
    have hST : Hid (ST = blk D.dur nn) := by
      have h1 := hmet.out ps.length (Nat.le_refl _) hne
      rw [h.len, Nat.sub_self] at h1
      show _ = _
      rw [hstand.out, h1]
      rfl
    have d1 := (hB.cell (p := ⟨g, 1, none⟩) hglt).trans c1
    gi_wp2_with fail
    refine wpIn_wide.2 ?_
    refine wp_region_any (by kernel_rfl) ?_
    change wpAny _ _ _ _ _ _ _ (World.drew _)
    refine wpAny_of_class (C := fun _ _ => True) _ _ _ _ ?_
    have d1d : W.drew.cell? ⟨g, 1, none⟩ = some (.slice (some ⟨gd, 0, none⟩) (D.nb * 4096) cd) := d1
    have hcnd : W.drew.cell? ⟨w.heap.size, 0, none⟩ = some (.int .i64 (nn : Int)) := hcn
    have hcrd : W.drew.cell? ⟨w.heap.size + 1, 0, none⟩ = some (.slice none 0 0) := hcr
    have hfrd : W.drew.frozen? ⟨w.heap.size + 1, 0, none⟩ = false := hfr
    refine wpAnyC_two (i := 0) (j := 4) (by kernel_rfl) rfl rfl (fun K hK2 => ?_) (fun K hK2 => ?_)
    · skip
      go_simp
      refine hK2 _ _ ⟨trivial, ?_⟩
      clear hK2 K
      refine wpAnyC_two (i := 1) (j := 4) (by kernel_rfl) rfl rfl (fun K hK2 => ?_) (fun K hK2 => ?_)
      · skip
        go_simp
        refine hK2 _ _ ⟨trivial, ?_⟩
        clear hK2 K
        refine wpAnyC_two (i := 2) (j := 4) (by kernel_rfl) rfl rfl (fun K hK2 => ?_) (fun K hK2 => ?_)
        · skip
          go_simp
          refine hK2 _ _ ⟨trivial, ?_⟩
          clear hK2 K
          refine wpAnyC_two (i := 3) (j := 4) (by kernel_rfl) rfl rfl (fun K hK2 => ?_) (fun K hK2 => ?_)
          · skip
            go_simp
            refine hK2 _ _ ⟨trivial, ?_⟩
            clear hK2 K
            refine wpAnyC_one (i := 4) (by kernel_rfl) rfl (fun K hK2 => ?_)
            go_simp
            refine hK2 _ _ ⟨trivial, ?_⟩
            clear hK2 K
            refine wpAnyC_one (i := 5) (by kernel_rfl) rfl (fun K hK2 => ?_)
            go_simp
            refine (part_i gd 0 (D.nb * 4096) cd nn 4096 _ _ W.drew rfl rfl (by omega) (by omega) (by omega)).mono ?_
            rintro e w' ⟨rfl, rfl⟩
            refine hK2 _ _ ⟨trivial, ?_⟩
            clear hK2 K
            refine wpAnyC_one (i := 6) (by kernel_rfl) rfl (fun K hK2 => ?_)
            go_simp
            refine hK2 _ _ ⟨trivial, ?_⟩
            clear hK2 K
            refine wpAnyC_done (by kernel_rfl) ?_ _
            obtain ⟨V, hV⟩ : ∃ V, V = (W.setCell ⟨w.heap.size + 1, 0, none⟩ (.slice (some ⟨gd, nn * 4096, none⟩) 4096 4096)).drew := ⟨_, rfl⟩
            have hK' : V.heap[D']? = some (.deferred (some [])) := by rw [hV]; exact (KeepsOthers.setCell W ⟨w.heap.size + 1, 0, none⟩ (.slice (some ⟨gd, nn * 4096, none⟩) 4096 4096)).same D' _ hK rfl
            have hcV : V.cell? ⟨w.heap.size + 1, 0, none⟩ = some (.slice (some ⟨gd, nn * 4096, none⟩) 4096 4096) := by rw [hV]; exact World.cell?_setCell_same' W _ _ (by rw [hcr]; rfl)
            have hBV : Below w.heap.size w V := by rw [hV]; exact (hB.setCell (p := ⟨w.heap.size + 1, 0, none⟩) (by simp) _).drew
            rw [← hV]
            clear hV
            have hc5 := cell_kept hcV (grownBy_putObj' _ D' (.deferred none)) (fun r e => by cases e; exact ⟨_, hK', rfl⟩)
            gi_wp2
            refine ⟨by simp, .inl ⟨_, _, rfl, run_takeDeferred hK', ?_⟩⟩
            refine ⟨.slice (some ⟨gd, nn * 4096, none⟩) 4096 4096, ?_, ⟨gd, nn * 4096, 4096, rfl, by rw [hST.out]; have := hdur.out; rw [Nat.zero_add] at this; exact this⟩, hBV.trans (belowK_b (w := w) (Nat.le_refl _) _ D' _ _ (by omega) hK' rfl rfl)⟩
            simp [results, Tryz.f99, go_sem, hc5]
          · skip
            go_simp
            refine hK2 _ _ ⟨trivial, ?_⟩
            clear hK2 K
            refine wpAnyC_one (i := 3) (by kernel_rfl) rfl (fun K hK2 => ?_)
            go_simp
            refine hK2 _ _ ⟨trivial, ?_⟩
            clear hK2 K
            refine wpAnyC_one (i := 5) (by kernel_rfl) rfl (fun K hK2 => ?_)
            go_simp
            refine (part_i gd 0 (D.nb * 4096) cd nn 4096 _ _ W.drew rfl rfl (by omega) (by omega) (by omega)).mono ?_
            rintro e w' ⟨rfl, rfl⟩
            refine hK2 _ _ ⟨trivial, ?_⟩
            clear hK2 K
            refine wpAnyC_one (i := 6) (by kernel_rfl) rfl (fun K hK2 => ?_)
            go_simp
            refine hK2 _ _ ⟨trivial, ?_⟩
            clear hK2 K
            refine wpAnyC_done (by kernel_rfl) ?_ _
            obtain ⟨V, hV⟩ : ∃ V, V = (W.setCell ⟨w.heap.size + 1, 0, none⟩ (.slice (some ⟨gd, nn * 4096, none⟩) 4096 4096)).drew := ⟨_, rfl⟩
            have hK' : V.heap[D']? = some (.deferred (some [])) := by rw [hV]; exact (KeepsOthers.setCell W ⟨w.heap.size + 1, 0, none⟩ (.slice (some ⟨gd, nn * 4096, none⟩) 4096 4096)).same D' _ hK rfl
            have hcV : V.cell? ⟨w.heap.size + 1, 0, none⟩ = some (.slice (some ⟨gd, nn * 4096, none⟩) 4096 4096) := by rw [hV]; exact World.cell?_setCell_same' W _ _ (by rw [hcr]; rfl)
            have hBV : Below w.heap.size w V := by rw [hV]; exact (hB.setCell (p := ⟨w.heap.size + 1, 0, none⟩) (by simp) _).drew
            rw [← hV]
            clear hV
            have hc5 := cell_kept hcV (grownBy_putObj' _ D' (.deferred none)) (fun r e => by cases e; exact ⟨_, hK', rfl⟩)
            gi_wp2
            refine ⟨by simp, .inl ⟨_, _, rfl, run_takeDeferred hK', ?_⟩⟩
            refine ⟨.slice (some ⟨gd, nn * 4096, none⟩) 4096 4096, ?_, ⟨gd, nn * 4096, 4096, rfl, by rw [hST.out]; have := hdur.out; rw [Nat.zero_add] at this; exact this⟩, hBV.trans (belowK_b (w := w) (Nat.le_refl _) _ D' _ _ (by omega) hK' rfl rfl)⟩
            simp [results, Tryz.f99, go_sem, hc5]
        · skip
          go_simp
          refine hK2 _ _ ⟨trivial, ?_⟩
          clear hK2 K
          refine wpAnyC_one (i := 2) (by kernel_rfl) rfl (fun K hK2 => ?_)
          go_simp
          refine hK2 _ _ ⟨trivial, ?_⟩
          clear hK2 K
          refine wpAnyC_one (i := 3) (by kernel_rfl) rfl (fun K hK2 => ?_)
          go_simp
          refine hK2 _ _ ⟨trivial, ?_⟩
          clear hK2 K
          refine wpAnyC_one (i := 5) (by kernel_rfl) rfl (fun K hK2 => ?_)
          go_simp
          refine (part_i gd 0 (D.nb * 4096) cd nn 4096 _ _ W.drew rfl rfl (by omega) (by omega) (by omega)).mono ?_
          rintro e w' ⟨rfl, rfl⟩
          refine hK2 _ _ ⟨trivial, ?_⟩
          clear hK2 K
          refine wpAnyC_one (i := 6) (by kernel_rfl) rfl (fun K hK2 => ?_)
          go_simp
          refine hK2 _ _ ⟨trivial, ?_⟩
          clear hK2 K
          refine wpAnyC_done (by kernel_rfl) ?_ _
          obtain ⟨V, hV⟩ : ∃ V, V = (W.setCell ⟨w.heap.size + 1, 0, none⟩ (.slice (some ⟨gd, nn * 4096, none⟩) 4096 4096)).drew := ⟨_, rfl⟩
          have hK' : V.heap[D']? = some (.deferred (some [])) := by rw [hV]; exact (KeepsOthers.setCell W ⟨w.heap.size + 1, 0, none⟩ (.slice (some ⟨gd, nn * 4096, none⟩) 4096 4096)).same D' _ hK rfl
          have hcV : V.cell? ⟨w.heap.size + 1, 0, none⟩ = some (.slice (some ⟨gd, nn * 4096, none⟩) 4096 4096) := by rw [hV]; exact World.cell?_setCell_same' W _ _ (by rw [hcr]; rfl)
          have hBV : Below w.heap.size w V := by rw [hV]; exact (hB.setCell (p := ⟨w.heap.size + 1, 0, none⟩) (by simp) _).drew
          rw [← hV]
          clear hV
          have hc5 := cell_kept hcV (grownBy_putObj' _ D' (.deferred none)) (fun r e => by cases e; exact ⟨_, hK', rfl⟩)
          gi_wp2
          refine ⟨by simp, .inl ⟨_, _, rfl, run_takeDeferred hK', ?_⟩⟩
          refine ⟨.slice (some ⟨gd, nn * 4096, none⟩) 4096 4096, ?_, ⟨gd, nn * 4096, 4096, rfl, by rw [hST.out]; have := hdur.out; rw [Nat.zero_add] at this; exact this⟩, hBV.trans (belowK_b (w := w) (Nat.le_refl _) _ D' _ _ (by omega) hK' rfl rfl)⟩
          simp [results, Tryz.f99, go_sem, hc5]
      · skip
        go_simp
        refine hK2 _ _ ⟨trivial, ?_⟩
        clear hK2 K
        refine wpAnyC_one (i := 1) (by kernel_rfl) rfl (fun K hK2 => ?_)
        go_simp
        refine hK2 _ _ ⟨trivial, ?_⟩
        clear hK2 K
        refine wpAnyC_one (i := 2) (by kernel_rfl) rfl (fun K hK2 => ?_)
        go_simp
        refine hK2 _ _ ⟨trivial, ?_⟩
        clear hK2 K
        refine wpAnyC_one (i := 3) (by kernel_rfl) rfl (fun K hK2 => ?_)
        go_simp
        refine hK2 _ _ ⟨trivial, ?_⟩
        clear hK2 K
        refine wpAnyC_one (i := 5) (by kernel_rfl) rfl (fun K hK2 => ?_)
        go_simp
        refine (part_i gd 0 (D.nb * 4096) cd nn 4096 _ _ W.drew rfl rfl (by omega) (by omega) (by omega)).mono ?_
        rintro e w' ⟨rfl, rfl⟩
        refine hK2 _ _ ⟨trivial, ?_⟩
        clear hK2 K
        refine wpAnyC_one (i := 6) (by kernel_rfl) rfl (fun K hK2 => ?_)
        go_simp
        refine hK2 _ _ ⟨trivial, ?_⟩
        clear hK2 K
        refine wpAnyC_done (by kernel_rfl) ?_ _
        obtain ⟨V, hV⟩ : ∃ V, V = (W.setCell ⟨w.heap.size + 1, 0, none⟩ (.slice (some ⟨gd, nn * 4096, none⟩) 4096 4096)).drew := ⟨_, rfl⟩
        have hK' : V.heap[D']? = some (.deferred (some [])) := by rw [hV]; exact (KeepsOthers.setCell W ⟨w.heap.size + 1, 0, none⟩ (.slice (some ⟨gd, nn * 4096, none⟩) 4096 4096)).same D' _ hK rfl
        have hcV : V.cell? ⟨w.heap.size + 1, 0, none⟩ = some (.slice (some ⟨gd, nn * 4096, none⟩) 4096 4096) := by rw [hV]; exact World.cell?_setCell_same' W _ _ (by rw [hcr]; rfl)
        have hBV : Below w.heap.size w V := by rw [hV]; exact (hB.setCell (p := ⟨w.heap.size + 1, 0, none⟩) (by simp) _).drew
        rw [← hV]
        clear hV
        have hc5 := cell_kept hcV (grownBy_putObj' _ D' (.deferred none)) (fun r e => by cases e; exact ⟨_, hK', rfl⟩)
        gi_wp2
        refine ⟨by simp, .inl ⟨_, _, rfl, run_takeDeferred hK', ?_⟩⟩
        refine ⟨.slice (some ⟨gd, nn * 4096, none⟩) 4096 4096, ?_, ⟨gd, nn * 4096, 4096, rfl, by rw [hST.out]; have := hdur.out; rw [Nat.zero_add] at this; exact this⟩, hBV.trans (belowK_b (w := w) (Nat.le_refl _) _ D' _ _ (by omega) hK' rfl rfl)⟩
        simp [results, Tryz.f99, go_sem, hc5]
    · skip
      go_simp
      refine hK2 _ _ ⟨trivial, ?_⟩
      clear hK2 K
      refine wpAnyC_one (i := 0) (by kernel_rfl) rfl (fun K hK2 => ?_)
      go_simp
      refine hK2 _ _ ⟨trivial, ?_⟩
      clear hK2 K
      refine wpAnyC_one (i := 1) (by kernel_rfl) rfl (fun K hK2 => ?_)
      go_simp
      refine hK2 _ _ ⟨trivial, ?_⟩
      clear hK2 K
      refine wpAnyC_one (i := 2) (by kernel_rfl) rfl (fun K hK2 => ?_)
      go_simp
      refine hK2 _ _ ⟨trivial, ?_⟩
      clear hK2 K
      refine wpAnyC_one (i := 3) (by kernel_rfl) rfl (fun K hK2 => ?_)
      go_simp
      refine hK2 _ _ ⟨trivial, ?_⟩
      clear hK2 K
      refine wpAnyC_one (i := 5) (by kernel_rfl) rfl (fun K hK2 => ?_)
      go_simp
      refine (part_i gd 0 (D.nb * 4096) cd nn 4096 _ _ W.drew rfl rfl (by omega) (by omega) (by omega)).mono ?_
      rintro e w' ⟨rfl, rfl⟩
      refine hK2 _ _ ⟨trivial, ?_⟩
      clear hK2 K
      refine wpAnyC_one (i := 6) (by kernel_rfl) rfl (fun K hK2 => ?_)
      go_simp
      refine hK2 _ _ ⟨trivial, ?_⟩
      clear hK2 K
      refine wpAnyC_done (by kernel_rfl) ?_ _
      obtain ⟨V, hV⟩ : ∃ V, V = (W.setCell ⟨w.heap.size + 1, 0, none⟩ (.slice (some ⟨gd, nn * 4096, none⟩) 4096 4096)).drew := ⟨_, rfl⟩
      have hK' : V.heap[D']? = some (.deferred (some [])) := by rw [hV]; exact (KeepsOthers.setCell W ⟨w.heap.size + 1, 0, none⟩ (.slice (some ⟨gd, nn * 4096, none⟩) 4096 4096)).same D' _ hK rfl
      have hcV : V.cell? ⟨w.heap.size + 1, 0, none⟩ = some (.slice (some ⟨gd, nn * 4096, none⟩) 4096 4096) := by rw [hV]; exact World.cell?_setCell_same' W _ _ (by rw [hcr]; rfl)
      have hBV : Below w.heap.size w V := by rw [hV]; exact (hB.setCell (p := ⟨w.heap.size + 1, 0, none⟩) (by simp) _).drew
      rw [← hV]
      clear hV
      have hc5 := cell_kept hcV (grownBy_putObj' _ D' (.deferred none)) (fun r e => by cases e; exact ⟨_, hK', rfl⟩)
      gi_wp2
      refine ⟨by simp, .inl ⟨_, _, rfl, run_takeDeferred hK', ?_⟩⟩
      refine ⟨.slice (some ⟨gd, nn * 4096, none⟩) 4096 4096, ?_, ⟨gd, nn * 4096, 4096, rfl, by rw [hST.out]; have := hdur.out; rw [Nat.zero_add] at this; exact this⟩, hBV.trans (belowK_b (w := w) (Nat.le_refl _) _ D' _ _ (by omega) hK' rfl rfl)⟩
      simp [results, Tryz.f99, go_sem, hc5]
  case stop =>
    rintro D' c pre W hD ⟨k, hk, rfl⟩ ⟨⟨rfl, ini, last, e1, e2, e3, hcr⟩, hB⟩ hK
    gi_wp2
    refine ⟨by simp, .inl ⟨_, _, rfl, run_takeDeferred hK, ?_⟩⟩
    have hc5 := cell_kept hcr (grownBy_putObj' _ D' (.deferred none)) (fun r e => by cases e; exact ⟨_, hK, rfl⟩)
    obtain ⟨k', rfl⟩ : ∃ k', k = k' + 1 := by
      cases k with
      | zero => simp [downs] at e1
      | succ k' => exact ⟨k', rfl⟩
    rw [downs_succ] at e1
    obtain ⟨rfl, e5⟩ := List.append_inj' e1 rfl
    obtain rfl : comes ps k' = last := by simpa using e5
    obtain ⟨m, hm⟩ : ∃ m, m = ps.length - 1 - k' := ⟨_, rfl⟩
    have hmp : m < ps.length := by omega
    have hmu : m < D.uf.length := by rw [← h.len]; exact hmp
    have hcm : comes ps k' = (m, ps[m]) := by
      unfold comes
      rw [← hm, List.getElem?_eq_getElem hmp]
      rfl
    obtain ⟨q1, q2, _⟩ := h.each m hmp hmu
    have hST : ST = D.uf[m].2 := by
      have h1 := hmet.out k' (by omega) e2
      have h2 : D.uf.length - k' = m + 1 := by rw [← h.len]; omega
      rw [h2, lastOf_succ D.uf nn m hmu, if_pos (by rw [← q1]; rw [hcm] at e3; exact e3)] at h1
      rw [hstand.out, h1]
      rfl
    rw [hcm] at hc5
    refine ⟨.slice (some ⟨ps[m].2.1, 0, none⟩) 4096 ps[m].2.2, ?_, ⟨ps[m].2.1, 0, ps[m].2.2, rfl, by rw [hST]; exact q2.rd⟩, hB.trans (belowK_b (w := w) (Nat.le_refl _) W D' _ _ (by omega) hK rfl rfl)⟩
    simp [results, Tryz.f99, go_sem, hc5]

theorem stand_length {D : DS} (h : D.Ok) (nn : Nat) (hn : nn < D.nb) : (D.stand nn).length = 4096 := by
  have key : ∀ k, k ≤ D.uf.length → ∀ x, lastOf D.uf nn k = some x → x.length = 4096 := by
    intro k
    induction k with
    | zero => intro _ x hx; simp [lastOf] at hx
    | succ k ih =>
      intro hk x hx
      rw [lastOf_succ D.uf nn k (by omega)] at hx
      split at hx
      · have := (h.at k (by omega)).2
        simp at hx
        rw [← hx]; exact this
      · exact ih (by omega) x hx
  unfold DS.stand
  cases e : lastOf D.uf nn D.uf.length with
  | none => exact blk_length _ _ (h.room hn)
  | some x => exact key _ (Nat.le_refl _) x e

theorem read_at {g : Nat} {w : World} {D : DS} {F : Nat → Prop} (hd : IsDisk w g D F) (nn : Nat) (hn : nn < D.nb) (hg : D.gone = false) (hlim : D.uf.length ≤ 1000000) :
    Calls Tryz.prog 28 #[.pointer (some ⟨g, 0, none⟩), .int .i64 (nn : Int)] w fun e w' => ∃ gr cr, e = .returned (.tuple #[.slice (some ⟨gr, 0, none⟩) 4096 cr, .int .i64 0]) ∧ w.heap.size ≤ gr ∧ RowB w' gr cr (D.stand nn) ∧ Below w.heap.size w w' := by
  obtain ⟨gd, cd, vu, ps, h⟩ := hd
  have c := isMade_at h
  have cH := has_at h (nn : Int)
  have hhas : D.has (nn : Int) = true := by simp [DS.has]; omega
  rw [hhas] at cH
  have cS := standing_at h nn hn hlim
  obtain ⟨_, _, _, _, c4, _⟩ := box_cells h.box
  rw [hg] at c4
  have Hlen : Hid _ := stand_length h.ok nn hn
  generalize D.stand nn = ST at cS Hlen ⊢
  go_enter Tryz.func28, Tryz.ntmps28
  go_wp2_with fail
  refine c.mono ?_
  rintro e w' ⟨rfl, rfl⟩
  go_wp2_with fail
  refine cH.mono ?_
  rintro e w' ⟨rfl, rfl⟩
  go_wp2_with fail
  refine cS.mono ?_
  rintro e w1 ⟨⟨b, o, cap, rfl, hr⟩, b1⟩
  clear c cH cS
  go_wp2_with fail
  refine (clone_at cap 4096 ⟨b, o, none⟩ ST w1 Hlen.out (by omega) (by omega) (hr.below b1 (Nat.le_refl _))).mono ?_
  rintro e w2 ⟨gr, cr, rfl, hgr, r2, b2⟩
  have B2 := b1.trans (b2.mono b1.size)
  have z1 := b1.size
  clear b1 b2
  go_wp2
  go_ret2
  exact ⟨gr, cr, rfl, by omega, r2, B2⟩

theorem read_bad {g : Nat} {w : World} {D : DS} {F : Nat → Prop} (hd : IsDisk w g D F) (n : Int) (hE : D.readE n ≠ 0) :
    Calls Tryz.prog 28 #[.pointer (some ⟨g, 0, none⟩), .int .i64 n] w fun e w' => e = .returned (.tuple #[.slice none 0 0, .int .i64 (D.readE n : Int)]) ∧ w = w' := by
  obtain ⟨gd, cd, vu, ps, h⟩ := hd
  have c := isMade_at h
  have cH := has_at h n
  obtain ⟨_, _, _, _, c4, _⟩ := box_cells h.box
  cases hh : D.has n with
  | false =>
    have e : D.readE n = 70 := by simp [DS.readE, hh]
    rw [e]
    rw [hh] at cH
    go_enter Tryz.func28, Tryz.ntmps28
    go_wp2_with fail
    refine c.mono ?_
    rintro e w' ⟨rfl, rfl⟩
    go_wp2_with fail
    refine cH.mono ?_
    rintro e w' ⟨rfl, rfl⟩
    go_wp2
    go_ret2
    exact ⟨rfl, rfl⟩
  | true =>
    cases hg : D.gone with
    | false => exact absurd (by simp [DS.readE, hh, hg]) hE
    | true =>
      have e : D.readE n = 6 := by simp [DS.readE, hh, hg]
      rw [e]
      rw [hh] at cH
      rw [hg] at c4
      go_enter Tryz.func28, Tryz.ntmps28
      go_wp2_with fail
      refine c.mono ?_
      rintro e w' ⟨rfl, rfl⟩
      go_wp2_with fail
      refine cH.mono ?_
      rintro e w' ⟨rfl, rfl⟩
      go_wp2
      go_ret2
      exact ⟨rfl, rfl⟩
end Go.Proofs.YtnldkpckojhbhaaGreat.Dk

/-
  The reader of a ring: where it stands, and the block there.
-/
namespace Go.Proofs.YtnldkpckojhbhaaGreat.S
open Go.RowKit
open Go.Proofs.YtnldkpckojhbhaaGreat.Dk (Box)

def rC (dg : Nat) (B E S t : Int) : Array Value := #[.pointer (some ⟨dg, 0, none⟩), .int .i64 64, .int .i64 2, .int .i64 16, .int .i64 18, .int .i64 19, .int .i64 4, .int .i64 23, .int .i64 B, .int .i64 E, .int .i64 S, .int .i64 t]
theorem r_cells {w : World} {g dg : Nat} {B E S t : Int} (h : Box w g (rC dg B E S t) 261) :
    w.cell? ⟨g, 0, none⟩ = some (.pointer (some ⟨dg, 0, none⟩)) ∧ w.cell? ⟨g, 1, none⟩ = some (.int .i64 64) ∧ w.cell? ⟨g, 2, none⟩ = some (.int .i64 2) ∧ w.cell? ⟨g, 3, none⟩ = some (.int .i64 16) ∧ w.cell? ⟨g, 4, none⟩ = some (.int .i64 18) ∧ w.cell? ⟨g, 5, none⟩ = some (.int .i64 19) ∧ w.cell? ⟨g, 6, none⟩ = some (.int .i64 4) ∧ w.cell? ⟨g, 7, none⟩ = some (.int .i64 23) ∧ w.cell? ⟨g, 8, none⟩ = some (.int .i64 B) ∧ w.cell? ⟨g, 9, none⟩ = some (.int .i64 E) ∧ w.cell? ⟨g, 10, none⟩ = some (.int .i64 S) ∧ w.cell? ⟨g, 11, none⟩ = some (.int .i64 t) :=
  ⟨h.cell 0, h.cell 1, h.cell 2, h.cell 3, h.cell 4, h.cell 5, h.cell 6, h.cell 7, h.cell 8, h.cell 9, h.cell 10, h.cell 11⟩

theorem within_at (n a b : Int) (w : World) :
    Calls Tryz.prog 270 #[.int .i64 n, .int .i64 a, .int .i64 b] w fun r w' => r = .returned (.bool (decide (a ≤ n ∧ n ≤ b))) ∧ w = w' := by
  by_cases h1 : a ≤ n
  · by_cases h2 : n ≤ b
    · rw [decide_eq_true ⟨h1, h2⟩]
      go_enter Tryz.func270, Tryz.ntmps270
      go_wp2
      go_ret
      exact ⟨rfl, rfl⟩
    · rw [decide_eq_false (fun h => h2 h.2)]
      go_enter Tryz.func270, Tryz.ntmps270
      go_wp2
      go_ret
      exact ⟨rfl, rfl⟩
  · rw [decide_eq_false (fun h => h1 h.1)]
    go_enter Tryz.func270, Tryz.ntmps270
    go_wp2
    go_ret
    exact ⟨rfl, rfl⟩

theorem place_at (dg t b : Nat) (B E S : Int) (w : World) (ht : t < 16) (hb : b ≤ 1000) :
    Calls Tryz.prog 207 #[.agg (rC dg B E S (t : Int)), .int .i64 (b : Int)] w fun r w' => r = .returned (.int .i64 (((t + b) % 16 : Nat) : Int)) ∧ Below w.heap.size w w' := by
  have B0 := (Below.refl w.heap.size w).alloc (Nat.le_refl _) (.cells (rC dg B E S (t : Int)) 261)
  have e : (((t + b) % 16 : Nat) : Int) = ((t : Int) + (b : Int)) % 16 := by push_cast; rfl
  rw [e]
  clear e
  unfold rC at B0 ⊢
  go_enter Tryz.func207, Tryz.ntmps207
  go_wp2_with fail
  go_ret
  exact ⟨rfl, B0⟩

@[reducible] def R12 (w : World) (dg : Nat) (B E S t : Int) (u : World) : Prop :=
  u.cell? ⟨w.heap.size, 0, none⟩ = some (.pointer (some ⟨dg, 0, none⟩)) ∧ u.cell? ⟨w.heap.size, 1, none⟩ = some (.int .i64 64) ∧ u.cell? ⟨w.heap.size, 2, none⟩ = some (.int .i64 2) ∧ u.cell? ⟨w.heap.size, 3, none⟩ = some (.int .i64 16) ∧ u.cell? ⟨w.heap.size, 4, none⟩ = some (.int .i64 18) ∧ u.cell? ⟨w.heap.size, 5, none⟩ = some (.int .i64 19) ∧ u.cell? ⟨w.heap.size, 6, none⟩ = some (.int .i64 4) ∧ u.cell? ⟨w.heap.size, 7, none⟩ = some (.int .i64 23) ∧ u.cell? ⟨w.heap.size, 8, none⟩ = some (.int .i64 B) ∧ u.cell? ⟨w.heap.size, 9, none⟩ = some (.int .i64 E) ∧ u.cell? ⟨w.heap.size, 10, none⟩ = some (.int .i64 S) ∧ u.cell? ⟨w.heap.size, 11, none⟩ = some (.int .i64 t)

set_option maxHeartbeats 4000000 in
theorem block_at {w : World} {dg : Nat} {D : Dk.DS} {F : Nat → Prop} (hd : Dk.IsDisk w dg D F) (hnb : D.nb = 64) (hg : D.gone = false) (hlim : D.uf.length ≤ 1000000) (B E S : Int) (t b : Nat) (ht : t < 16) (hb : b ≤ 1000) :
    Calls Tryz.prog 271 #[.agg (rC dg B E S (t : Int)), .int .i64 (b : Int)] w fun r w' => ∃ gr cr, r = .returned (.tuple #[.slice (some ⟨gr, 0, none⟩) 4096 cr, .int .i64 0]) ∧ w.heap.size ≤ gr ∧ Rc.RowB w' gr cr (D.stand (2 + (t + b) % 16)) ∧ Below w.heap.size w w' := by
  have al := (Below.refl w.heap.size w).alloc (Nat.le_refl _) (.cells (rC dg B E S (t : Int)) 261)
  have x0 := Dk.Box.new w (rC dg B E S (t : Int)) 261
  have hm : (t + b) % 16 < 16 := Nat.mod_lt _ (by decide)
  have HS : Hid (∀ u, Below (w.alloc (.cells (rC dg B E S (t : Int)) 261)).heap.size (w.alloc (.cells (rC dg B E S (t : Int)) 261)) u → R12 w dg B E S (t : Int) u) := fun u bu => r_cells (x0.below bu)
  have HR : Hid (∀ u, Below w.heap.size w u → Calls Tryz.prog 28 #[.pointer (some ⟨dg, 0, none⟩), .int .i64 (2 + (((t + b) % 16 : Nat) : Int))] u fun e w' => ∃ gr cr, e = .returned (.tuple #[.slice (some ⟨gr, 0, none⟩) 4096 cr, .int .i64 0]) ∧ u.heap.size ≤ gr ∧ Dk.RowB w' gr cr (D.stand (2 + (t + b) % 16)) ∧ Below u.heap.size u w') := fun u bu => by
    have hd' : Dk.IsDisk u dg D F := by
      obtain ⟨gd, cd, vu, ps, hl⟩ := hd
      exact ⟨gd, cd, vu, ps, hl.kept (fun i hi => bu.block i (hl.flt i hi)) bu.size⟩
    have c := Dk.read_at hd' (2 + (t + b) % 16) (by omega) hg hlim
    have e : ((2 + (t + b) % 16 : Nat) : Int) = 2 + (((t + b) % 16 : Nat) : Int) := by omega
    rw [e] at c
    exact c
  have HP : Hid (∀ u, Calls Tryz.prog 207 #[.agg (rC dg B E S (t : Int)), .int .i64 (b : Int)] u fun r w' => r = .returned (.int .i64 (((t + b) % 16 : Nat) : Int)) ∧ Below u.heap.size u w') := fun u => place_at dg t b B E S u ht hb
  generalize D.stand (2 + (t + b) % 16) = X at HR ⊢
  generalize (t + b) % 16 = p at HR HP hm
  have hwp : IntKind.i64.wrap (2 + (p : Int)) = 2 + (p : Int) := by rw [IntKind.wrap_i64]; omega
  have HAL : Hid (Below w.heap.size w (w.alloc (.cells (rC dg B E S (t : Int)) 261))) := al
  clear hd x0 al
  unfold rC at HS HP HAL ⊢
  go_enter Tryz.func271, Tryz.ntmps271
  go_wp2_with fail
  generalize hW : w.alloc (.cells #[.pointer (some ⟨dg, 0, none⟩), .int .i64 64, .int .i64 2, .int .i64 16, .int .i64 18, .int .i64 19, .int .i64 4, .int .i64 23, .int .i64 B, .int .i64 E, .int .i64 S, .int .i64 (t : Int)] 261) = W at HS HAL ⊢
  clear hW
  go_region_held3 (fun u => u.cell? ⟨w.heap.size, 0, none⟩ = some (.pointer (some ⟨dg, 0, none⟩)) ∧ u.cell? ⟨w.heap.size, 1, none⟩ = some (.int .i64 64) ∧ u.cell? ⟨w.heap.size, 2, none⟩ = some (.int .i64 2) ∧ u.cell? ⟨w.heap.size, 3, none⟩ = some (.int .i64 16) ∧ u.cell? ⟨w.heap.size, 4, none⟩ = some (.int .i64 18) ∧ u.cell? ⟨w.heap.size, 5, none⟩ = some (.int .i64 19) ∧ u.cell? ⟨w.heap.size, 6, none⟩ = some (.int .i64 4) ∧ u.cell? ⟨w.heap.size, 7, none⟩ = some (.int .i64 23) ∧ u.cell? ⟨w.heap.size, 8, none⟩ = some (.int .i64 B) ∧ u.cell? ⟨w.heap.size, 9, none⟩ = some (.int .i64 E) ∧ u.cell? ⟨w.heap.size, 10, none⟩ = some (.int .i64 S) ∧ u.cell? ⟨w.heap.size, 11, none⟩ = some (.int .i64 (t : Int)))
    (first | with_reducible exact HS.out _ ((Below.refl W.heap.size W).drew) | with_reducible exact HS.out _ B2 | with_reducible exact HS.out _ B1)
    (first
      | (go_at_call 207; refine Calls.mono (HP.out W.drew) ?_; rintro r u1 ⟨rfl, hw1⟩; have B1 : Below W.heap.size W u1 := ((Below.refl W.heap.size W).drew).trans hw1)
      | (go_at_call 28; refine Calls.mono (HR.out u1 (HAL.out.trans (B1.mono HAL.out.size))) ?_; rintro r u2 ⟨gr, cr, rfl, hgr, hrow, hw2⟩; have B2 : Below W.heap.size W u2 := B1.trans (hw2.mono B1.size)))
  have z1 := HAL.out.size
  have z2 := B1.size
  go_wp2_with fail
  exact bodyPost_ret (v := .tuple #[.slice (some ⟨gr, 0, none⟩) 4096 cr, .int .i64 0]) (by simp [results, Tryz.results271, go_sem]) rfl ⟨gr, cr, rfl, by omega, hrow, HAL.out.trans (B2.mono HAL.out.size)⟩
end Go.Proofs.YtnldkpckojhbhaaGreat.S

/-
  A range over a function that tells, of what it hands on, more than its value: what lies in memory there (A). The body is left by its end alone.
-/
namespace Go.Proofs.YtnldkpckojhbhaaGreat.S
open Go.RowKit

section
variable {F : Fence} {n : Nat} {P : Program}
def endPost {α : Type} (B : Nat) (Kp : World → World → Prop) (I : List α → World → Prop) (xs : List α) (W : World) : Exit → Act → World → Prop
  | .normal, _, W' => KeepsFrom B W W' ∧ Kp W W' ∧ I xs W'
  | _, _, _ => False

def Hands {α : Type} (F : Fence) (n : Nat) (P : Program) (gf : Nat) (lb : Array Value) (encs : α → Array Value) (A : List α → α → World → Prop) (Kp : World → World → Prop) (R : List α → Prop) (w : World) : Prop :=
  ∀ (l : Nat) (J : List α → World → Prop) (W : World), Below w.heap.size w W → AbidesFrom W.heap.size J →
    (∀ pre x W1, J pre W1 → A pre x W1 → YieldAt F (n - 1) P l (encs x) W1 fun e W' => e = .returned (.bool true) ∧ J (pre ++ [x]) W' ∧ Kp W1 W') → J [] W →
    CallsIn F n P gf (#[.func (.yield l) #[] #[]] ++ lb) W fun e W' => (∃ v, e = .returned v) ∧ ∃ xs, R xs ∧ J xs W'

theorem wpIn_range_told {α : Type} {g : Operand} {ps : Array Tmp} {assign body : Code} {Q : Exit → Act → World → Prop} {a : Act} {w w0 : World} (hro : F.round = none) (h1 : 1 ≤ n) {gf : Nat} {lb : Array Value} (hg : a.eval g = .func (.func gf) #[] lb) (hFg : F.fn gf)
    (eg : ∀ args w, (callFunc gf args).run P w = .ok (.enter gf args) w) {encs : α → Array Value} {A : List α → α → World → Prop} {Kp : World → World → Prop} {R : List α → Prop} (hseq : Hands F (n - 1) P gf lb encs A Kp R w0) (hb0 : Below w0.heap.size w0 w)
    (hKt : ∀ {A B C : World}, Kp A B → Kp B C → Kp A C) (hKb : ∀ (W : World) (l : Nat) (o o' : Obj), w.heap.size ≤ l → W.heap[l]? = some o → o.isCells = false → o.isWalk = false → Kp W (W.putObj l o')) (hps : ∀ x, (encs x).size = ps.size)
    (I : List α → World → Prop) (hI : OwnFrom w.heap.size I) (h0 : I [] w) (Ax : List α → α → Act → World → Prop) (hAx : ∀ pre x a', OwnFrom w.heap.size (fun (_ : Unit) W => Ax pre x a' W))
    (hassign : ∀ (l : Nat) (pre : List α) (x : α) (W : World) (K : Act → World → Prop), I pre W → A pre x W → (∀ a' W', KeepsFrom w.heap.size W W' → Kp W W' → I pre W' → Ax pre x a' W' → K a' W') →
      assign.wpIn (F.inRound l) (n - 1 - 1) P (Exit.then K (fun _ _ _ => False)) { tmps := (ps.zip (encs x)).foldl (fun t (p, v) => t.setIfInBounds p v) a.tmps, defers := [] } W)
    (hbody : ∀ (l : Nat) (pre : List α) (x : α) (a' : Act) (W : World), w.heap.size ≤ l → (∃ r, W.heap[l]? = some (.loop r)) → I pre W → Ax pre x a' W → body.wpIn (F.inRound l) (n - 1 - 1) P (endPost w.heap.size Kp I (pre ++ [x]) W) a' W)
    (hdone : ∀ (D : Nat) (xs : List α) (W : World), w.heap.size ≤ D → R xs → I xs W → W.heap[D]? = some (.deferred (some [])) → Q .normal { a with defers := { target := .collected D, args := #[] } :: a.defers } W) :
    (Code.rangeFunc g ps assign body).wpIn F n P Q a w := by
  refine wpIn_rangeFunc fun fn hfn => ?_
  rw [hro]
  obtain ⟨rec, hrec⟩ : ∃ rec : LoopState → Option Code → Loop, rec = fun st pe => { state := st, pending := pe, fn, tmps := a.tmps, params := ps, assign, body, defers := w.heap.size } := ⟨_, rfl⟩
  obtain ⟨W1, hW1⟩ : ∃ W1, (w.alloc (.deferred (some []))).alloc (.loop (rec .ready none)) = W1 := ⟨_, rfl⟩
  have z1 : W1.heap.size = w.heap.size + 2 := by rw [← hW1]; simp
  have hL1 : W1.heap[w.heap.size + 1]? = some (.loop (rec .ready none)) := by
    have h := heap_alloc_new (w.alloc (.deferred (some []))) (.loop (rec .ready none))
    rw [hW1] at h
    simpa using h
  have hK1 : W1.heap[w.heap.size]? = some (.deferred (some [])) := by
    rw [← hW1]
    exact (Below.heap_alloc _ _ _ (by simp)).trans (heap_alloc_new w _)
  have hI1 : I [] W1 := by rw [← hW1]; exact hI.alloc _ (hI.alloc _ h0)
  have hb1 : Below w0.heap.size w0 W1 := by
    rw [← hW1]
    exact hb0.trans ((((Below.refl _ w).alloc (Nat.le_refl _) _).alloc (by simp) _).mono hb0.size)
  refine ⟨w.heap.size + 1, [{ target := .collected w.heap.size, args := #[] }], W1, { target := .fn (.func gf) lb, args := #[.func (.yield (w.heap.size + 1)) #[] #[]] }, W1, gf, #[.func (.yield (w.heap.size + 1)) #[] #[]] ++ lb, W1, ?_, ?_, ?_, ?_, fun _ => h1, ?_⟩
  · rw [← hW1, hrec]
    exact run_enterLoop_outer _ _ _ _ _
  · simp only [resolve, hg]
    simp [go_sem]
  · intro f' hf'
    simp [Target.leads] at hf'
    subst hf'
    exact hFg
  · simp [invoke, go_sem, eg]
  have own : ∀ {A B : World} {row : Option Nat}, (∀ r, row = some r → W1.heap.size ≤ r ∧ ∃ o : Obj, A.heap[r]? = some o ∧ o.isWalk = true) → (∀ r, row = some r → w.heap.size ≤ r ∧ ∃ o : Obj, A.heap[r]? = some o ∧ o.isCells = false) := fun hr r e => by
    obtain ⟨hB, o, ho, hw⟩ := hr r e
    exact ⟨by omega, o, ho, Obj.not_cells_of_walk hw⟩
  refine (hseq (w.heap.size + 1) (fun pre W => I pre W ∧ W.heap[w.heap.size + 1]? = some (.loop (rec .ready none)) ∧ W.heap[w.heap.size]? = some (.deferred (some []))) W1 hb1
    (fun s A B row hs hg' hr => ⟨hI s A B row hs.1 hg' (own (B := B) hr), (grownBy_keeps hg' (fun r e => (hr r e).2) hs.2.1 rfl).trans hs.2.1, (grownBy_keeps hg' (fun r e => (hr r e).2) hs.2.2 rfl).trans hs.2.2⟩) ?_ ⟨hI1, hL1, hK1⟩).mono ?_
  · rintro pre x W ⟨hi, hl, hk⟩ hAW
    have hy := run_yield (P := P) (args := encs x) hl (by rw [hrec]; exact hps x)
    rw [hrec] at hy
    refine ⟨fn, _, assign, body, hy, roundIn_of_wpIn hfn (hassign _ pre x W _ hi hAW fun a' Wa hf hp hi' hax => ?_)⟩
    have hl' := hf.same _ _ (by omega) hl rfl
    have hk' := hf.same _ _ (Nat.le_refl _) hk rfl
    have hlt : w.heap.size + 1 < Wa.heap.size := (Array.getElem?_eq_some_iff.1 hl').1
    refine ⟨_, run_beginRound hl' (by rw [hrec]), ?_⟩
    have hl2 : (Wa.putObj (w.heap.size + 1) (.loop { rec .ready none with state := .busy })).heap[w.heap.size + 1]? = some (.loop { rec .ready none with state := .busy }) := World.putObj_heap_same hlt
    have hk2 : (Wa.putObj (w.heap.size + 1) (.loop { rec .ready none with state := .busy })).heap[w.heap.size]? = some (.deferred (some [])) := (World.putObj_heap_other (by omega)).trans hk'
    refine wpIn_mono (hbody _ pre x a' _ (by omega) ⟨_, hl2⟩ (hI.putObj _ hi' (by omega) hl' rfl) ((hAx pre x a').putObj (s := ()) _ hax (by omega) hl' rfl)) ?_
    rintro e a3 W3 hq
    cases e with
    | normal =>
      obtain ⟨hk3, hp3, hi3⟩ := hq
      have hl3 := hk3.same _ _ (by omega) hl2 rfl
      have hd3 := hk3.same _ _ (Nat.le_refl _) hk2 rfl
      have hr3 := run_endRound (P := P) none hl3
      have hlt3 := (Array.getElem?_eq_some_iff.1 hl3).1
      refine ⟨_, _, hr3, rfl, ⟨hI.putObj _ hi3 (by omega) hl3 rfl, ?_, (World.putObj_heap_other (by omega)).trans hd3⟩, hKt hp (hKt (hKt (hKb _ _ _ _ (by omega) hl' rfl rfl) hp3) (hKb _ _ _ _ (by omega) hl3 rfl rfl))⟩
      rw [hrec]
      exact World.putObj_heap_same hlt3
    | ret => exact hq.elim
    | exit id => exact hq.elim
    | goto t => exact hq.elim
    | panic ch => exact hq.elim
    | outgrown => exact hq.elim
  · rintro e W2 ⟨⟨v, rfl⟩, xs, hR, hi, hl, hk⟩
    have hE := run_endLoop (P := P) hl (by rw [hrec]; simp)
    have hpn : (rec LoopState.ready none).pending = none := by rw [hrec]
    rw [hpn] at hE
    refine ⟨none, _, hE, hdone _ xs _ (Nat.le_refl _) hR (hI.putObj _ hi (by omega) hl rfl) ((World.putObj_heap_other (by omega)).trans hk)⟩
end
end Go.Proofs.YtnldkpckojhbhaaGreat.S

/-
  The group that begins so many blocks behind the tail.
-/
namespace Go.Proofs.YtnldkpckojhbhaaGreat.S
open Go.RowKit
open Go.Proofs.YtnldkpckojhbhaaGreat.Dk (Box)

def ringB (D : Dk.DS) (t b k : Nat) : List (List UInt8) := (List.range k).map fun i => D.stand (2 + (t + (b + i)) % 16)
theorem ringB_length (D : Dk.DS) (t b k : Nat) : (ringB D t b k).length = k := by simp [ringB]
theorem ringB_succ (D : Dk.DS) (t b k : Nat) : ringB D t b (k + 1) = ringB D t b k ++ [D.stand (2 + (t + (b + k)) % 16)] := by simp [ringB, List.range_succ]
theorem ringB_head (D : Dk.DS) (t b k : Nat) : (ringB D t b (k + 1))[0]?.getD [] = D.stand (2 + (t + b) % 16) := by simp [ringB]
def cntAt (D : Dk.DS) (t b : Nat) : Nat := (Rc.saidEs (D.stand (2 + (t + b) % 16))).length
def GOk (D : Dk.DS) (t E b s : Nat) : Prop :=
  (Rc.isHead (D.stand (2 + (t + b) % 16)) ∧ Rc.saidE (D.stand (2 + (t + b) % 16)) = E ∧ Rc.saidS (D.stand (2 + (t + b) % 16)) = s) ∧ b + (cntAt D t b + 1) ≤ 16 ∧ Rc.isGrp (ringB D t b (cntAt D t b + 1))
def gimgs (D : Dk.DS) (t b : Nat) : List (Int × List UInt8) := Rc.imgsTo (ringB D t b (cntAt D t b + 1)) (Rc.saidEs (D.stand (2 + (t + b) % 16))) (cntAt D t b)
def GrR (w : World) (D : Dk.DS) (t E b s : Nat) (r : Ending) (w' : World) : Prop :=
  (GOk D t E b s ∧ ∃ a c ps, r = .returned (.tuple #[.agg #[.int .i64 (E : Int), .int .i64 (s : Int), .slice a (cntAt D t b) c], .int .i64 0]) ∧ w'.ownsRow w.heap.size 89 2 (.slice a (cntAt D t b) c) (cntAt D t b) (Rc.imgC ps) ∧ Rc.GetJ w.heap.size w' ps ∧ ps.map (fun p => (p.b, p.xs)) = gimgs D t b ∧ Below w.heap.size w w') ∨
  (¬ GOk D t E b s ∧ r = .returned (.tuple #[.agg #[.int .i64 0, .int .i64 0, .slice none 0 0], .int .i64 80]) ∧ Below w.heap.size w w')

theorem box3 {W : World} {b : Nat} {v0 v1 v2 : Value} (h : Box W b #[v0, v1, v2] 203) : (W.cell? ⟨b, 0, none⟩ = some v0 ∧ W.cell? ⟨b, 1, none⟩ = some v1 ∧ W.cell? ⟨b, 2, none⟩ = some v2) ∧ W.frozen? ⟨b, 0, none⟩ = false ∧ W.frozen? ⟨b, 1, none⟩ = false ∧ W.frozen? ⟨b, 2, none⟩ = false :=
  ⟨⟨h.cell 0, h.cell 1, h.cell 2⟩, h.frozen 0, h.frozen 1, h.frozen 2⟩
theorem below_set3 {B : Nat} {a W : World} (h : Below B a W) {k : Nat} (hk : B ≤ k) (v0 v1 v2 : Value) : Below B a (((W.setCell ⟨k, 0, none⟩ v0).setCell ⟨k, 1, none⟩ v1).setCell ⟨k, 2, none⟩ v2) :=
  ((h.setCell (p := ⟨k, 0, none⟩) hk v0).setCell (p := ⟨k, 1, none⟩) hk v1).setCell (p := ⟨k, 2, none⟩) hk v2
theorem box_set3 {W : World} {k : Nat} {u0 u1 u2 : Value} (h : Box W k #[u0, u1, u2] 203) (v0 v1 v2 : Value) : Box (((W.setCell ⟨k, 0, none⟩ v0).setCell ⟨k, 1, none⟩ v1).setCell ⟨k, 2, none⟩ v2) k #[v0, v1, v2] 203 := by
  simpa using ((h.store 0 v0).store 1 v1).store 2 v2

set_option maxRecDepth 100000 in
set_option maxHeartbeats 4000000 in
theorem group_at {w : World} {dg : Nat} {D : Dk.DS} {F : Nat → Prop} (hd : Dk.IsDisk w dg D F) (hnb : D.nb = 64) (hg : D.gone = false) (hlim : D.uf.length ≤ 1000000) (B : Int) (S : Int) (t E b s : Nat) (ht : t < 16) (hb : b ≤ 16) :
    Calls Tryz.prog 240 #[.agg (rC dg B (E : Int) S (t : Int)), .int .i64 (b : Int), .int .i64 (s : Int)] w (GrR w D t E b s) := by
  have ok : D.Ok := by obtain ⟨gd, cd, vu, ps, hl⟩ := hd; exact hl.ok
  have HBk : Hid (∀ (u : World) (k : Nat), Below w.heap.size w u → k ≤ 1000 → Calls Tryz.prog 271 #[.agg (rC dg B (E : Int) S (t : Int)), .int .i64 (k : Int)] u fun r w' => ∃ gr cr, r = .returned (.tuple #[.slice (some ⟨gr, 0, none⟩) 4096 cr, .int .i64 0]) ∧ u.heap.size ≤ gr ∧ Rc.RowB w' gr cr (D.stand (2 + (t + k) % 16)) ∧ Below u.heap.size u w') := fun u k bu hk => by
    have hd' : Dk.IsDisk u dg D F := by
      obtain ⟨gd, cd, vu, ps, hl⟩ := hd
      exact ⟨gd, cd, vu, ps, hl.kept (fun i hi => bu.block i (hl.flt i hi)) bu.size⟩
    exact block_at hd' hnb hg hlim B E S t k ht hk
  have HLn : Hid (∀ k, (D.stand (2 + (t + k) % 16)).length = 4096) := fun k => Dk.stand_length ok _ (by have := Nat.mod_lt (t + k) (show 0 < 16 by decide); omega)
  clear hd ok
  have b1 := (Below.refl w.heap.size w).alloc (Nat.le_refl _) (.cells (rC dg B (E : Int) S (t : Int)) 261)
  have B0 := b1.alloc b1.size (.cells #[.int .i64 0, .int .i64 0, .slice none 0 0] 203)
  have x0 := (Dk.Box.new w (rC dg B (E : Int) S (t : Int)) 261).alloc (.cells #[.int .i64 0, .int .i64 0, .slice none 0 0] 203)
  have x1 : Box ((w.alloc (.cells (rC dg B (E : Int) S (t : Int)) 261)).alloc (.cells #[.int .i64 0, .int .i64 0, .slice none 0 0] 203)) (w.heap.size + 1) #[.int .i64 0, .int .i64 0, .slice none 0 0] 203 := Rg.Box.next w _ _ 203
  have z0 : Hid (((w.alloc (.cells (rC dg B (E : Int) S (t : Int)) 261)).alloc (.cells #[.int .i64 0, .int .i64 0, .slice none 0 0] 203)).heap.size = w.heap.size + 2) := by show _ = _; simp
  obtain ⟨y0, y1, y2, y3, y4, y5, y6, y7, y8, y9, y10, y11⟩ := r_cells x0
  have HX0 : Hid (Box ((w.alloc (.cells (rC dg B (E : Int) S (t : Int)) 261)).alloc (.cells #[.int .i64 0, .int .i64 0, .slice none 0 0] 203)) w.heap.size (rC dg B (E : Int) S (t : Int)) 261) := x0
  clear b1 x0
  unfold rC at *
  have HX1 : Hid (Box ((w.alloc (.cells #[.pointer (some ⟨dg, 0, none⟩), .int .i64 64, .int .i64 2, .int .i64 16, .int .i64 18, .int .i64 19, .int .i64 4, .int .i64 23, .int .i64 B, .int .i64 (E : Int), .int .i64 S, .int .i64 (t : Int)] 261)).alloc (.cells #[.int .i64 0, .int .i64 0, .slice none 0 0] 203)) (w.heap.size + 1) #[.int .i64 0, .int .i64 0, .slice none 0 0] 203) := x1
  have HB0 : Hid (Below w.heap.size w ((w.alloc (.cells #[.pointer (some ⟨dg, 0, none⟩), .int .i64 64, .int .i64 2, .int .i64 16, .int .i64 18, .int .i64 19, .int .i64 4, .int .i64 23, .int .i64 B, .int .i64 (E : Int), .int .i64 S, .int .i64 (t : Int)] 261)).alloc (.cells #[.int .i64 0, .int .i64 0, .slice none 0 0] 203))) := B0
  have cB := HBk.out _ B0 (k := b) (by omega)
  clear x1 B0
  go_enter Tryz.func240, Tryz.ntmps240
  go_wp2_with fail
  refine Calls.mono cB ?_
  generalize (w.alloc (.cells #[.pointer (some ⟨dg, 0, none⟩), .int .i64 64, .int .i64 2, .int .i64 16, .int .i64 18, .int .i64 19, .int .i64 4, .int .i64 23, .int .i64 B, .int .i64 (E : Int), .int .i64 S, .int .i64 (t : Int)] 261)).alloc (.cells #[.int .i64 0, .int .i64 0, .slice none 0 0] 203) = W0 at *
  rintro r u1 ⟨gh, ch, rfl, hgh, hrow, bb1⟩
  clear cB y0 y1 y2 y3 y4 y5 y6 y7 y8 y9 y10 y11
  have HC : Hid (∀ u, Below W0.heap.size W0 u → R12 w dg B (E : Int) S (t : Int) u) := fun u bu => r_cells (HX0.out.below bu)
  have hrow' := hrow
  obtain ⟨curh, hbh, hcap, hmax, _, _⟩ := hrow'
  have HX : Hid ((D.stand (2 + (t + b) % 16)).length = 4096) := HLn.out b
  rw [HX.out] at hcap
  have cH := Rc.head_at (some ⟨gh, 0, none⟩) 4096 ch (D.stand (2 + (t + b) % 16)) u1 HX.out hcap (by unfold maxLen at hmax; omega) hrow.rd
  have HRow : Hid (Rc.RowB u1 gh ch (D.stand (2 + (t + b) % 16))) := hrow
  clear hrow hbh
  obtain ⟨X, hXe⟩ : ∃ X, X = D.stand (2 + (t + b) % 16) := ⟨_, rfl⟩
  have HXe : Hid (X = D.stand (2 + (t + b) % 16)) := hXe
  rw [← hXe] at cH HRow HX
  clear hXe
  go_wp2_with fail
  refine Calls.mono cH ?_
  rintro r u2 (⟨hH, rfl, bb2⟩ | ⟨hH, rfl, bb2⟩)
  rotate_left
  · have B2 := bb1.trans (bb2.mono bb1.size)
    have hno : ¬ GOk D t E b s := fun h => hH (by rw [HXe.out]; exact h.1.1)
    have x2 := HX1.out.below B2
    obtain ⟨⟨q0, q1, q2⟩, p0, p1, p2⟩ := box3 x2
    have x3 := box_set3 x2 (.int .i64 0) (.int .i64 0) (.slice none 0 0)
    have d0 := x3.cell 0
    have d1 := x3.cell 1
    have d2 := x3.cell 2
    simp at d0 d1 d2
    have Bf := below_set3 (HB0.out.trans (B2.mono HB0.out.size)) (k := w.heap.size + 1) (Nat.le_succ _) (.int .i64 0) (.int .i64 0) (.slice none 0 0)
    go_wp2_with fail
    exact bodyPost_ret (v := .tuple #[.agg #[.int .i64 0, .int .i64 0, .slice none 0 0], .int .i64 80]) (by simp [results, Tryz.results240, go_sem, d0, d1, d2]) rfl (.inr ⟨hno, rfl, Bf⟩)
  have B2 := bb1.trans (bb2.mono bb1.size)
  obtain ⟨y0, y1, y2, y3, y4, y5, y6, y7, y8, y9, y10, y11⟩ := HC.out u2 B2
  clear cH
  by_cases hES : Rc.saidE X = E ∧ Rc.saidS X = s
  rotate_left
  · have hno : ¬ GOk D t E b s := fun h => hES (by rw [HXe.out]; exact h.1.2)
    by_cases hE : Rc.saidE X = E
    · have hS : Rc.saidS X ≠ s := fun h => hES ⟨hE, h⟩
      have e1 : ¬ ((Rc.saidS X : Int) = (s : Int)) := by omega
      have e2 : ((Rc.saidE X : Int)) = (E : Int) := by omega
      clear hES hS hE
      have x2 := HX1.out.below B2
      obtain ⟨⟨q0, q1, q2⟩, p0, p1, p2⟩ := box3 x2
      have x3 := box_set3 x2 (.int .i64 0) (.int .i64 0) (.slice none 0 0)
      have d0 := x3.cell 0
      have d1 := x3.cell 1
      have d2 := x3.cell 2
      simp at d0 d1 d2
      have Bf := below_set3 (HB0.out.trans (B2.mono HB0.out.size)) (k := w.heap.size + 1) (Nat.le_succ _) (.int .i64 0) (.int .i64 0) (.slice none 0 0)
      go_wp2_with fail
      exact bodyPost_ret (v := .tuple #[.agg #[.int .i64 0, .int .i64 0, .slice none 0 0], .int .i64 80]) (by simp [results, Tryz.results240, go_sem, d0, d1, d2]) rfl (.inr ⟨hno, rfl, Bf⟩)
    · have e1 : ¬ ((Rc.saidE X : Int) = (E : Int)) := by omega
      clear hES hE
      have x2 := HX1.out.below B2
      obtain ⟨⟨q0, q1, q2⟩, p0, p1, p2⟩ := box3 x2
      have x3 := box_set3 x2 (.int .i64 0) (.int .i64 0) (.slice none 0 0)
      have d0 := x3.cell 0
      have d1 := x3.cell 1
      have d2 := x3.cell 2
      simp at d0 d1 d2
      have Bf := below_set3 (HB0.out.trans (B2.mono HB0.out.size)) (k := w.heap.size + 1) (Nat.le_succ _) (.int .i64 0) (.int .i64 0) (.slice none 0 0)
      go_wp2_with fail
      exact bodyPost_ret (v := .tuple #[.agg #[.int .i64 0, .int .i64 0, .slice none 0 0], .int .i64 80]) (by simp [results, Tryz.results240, go_sem, d0, d1, d2]) rfl (.inr ⟨hno, rfl, Bf⟩)
  obtain ⟨hE, hS⟩ := hES
  have hm1 : 1 ≤ (Rc.saidEs X).length ∧ (Rc.saidEs X).length ≤ 32 := by
    have := hH.2.1.2.1
    simpa using this
  obtain ⟨m, hm⟩ : ∃ m, m = (Rc.saidEs X).length := ⟨_, rfl⟩
  have HM : Hid (cntAt D t b = m) := by show (Rc.saidEs (D.stand (2 + (t + b) % 16))).length = m; rw [← HXe.out, hm]
  rw [← hm] at hm1 ⊢
  have e1 : ((Rc.saidE X : Nat) : Int) = (E : Int) := by omega
  have e2 : ((Rc.saidS X : Nat) : Int) = (s : Int) := by omega
  simp only [e1, e2]
  have HHd : Hid (Rc.isHead X ∧ Rc.saidE X = E ∧ Rc.saidS X = s) := ⟨hH, hE, hS⟩
  have cBl := Rc.blocks_at (m : Int) u2
  have ebl : Rc.blocksN (m : Int) = ((m + 1 : Nat) : Int) := by
    unfold Rc.blocksN
    rw [if_pos (by omega)]
    omega
  rw [ebl] at cBl
  clear ebl hE hS e1 e2 hm hH
  go_wp2_with fail
  refine Calls.mono cBl ?_
  rintro r u3 ⟨rfl, rfl⟩
  clear cBl
  by_cases hfit : b + (m + 1) ≤ 16
  rotate_left
  · have hno : ¬ GOk D t E b s := fun h => hfit (by have := h.2.1; rw [HM.out] at this; exact this)
    have hgt : (16 : Int) < (b : Int) + ((m : Int) + 1) := by omega
    clear hfit
    have x2 := HX1.out.below B2
    obtain ⟨⟨q0, q1, q2⟩, p0, p1, p2⟩ := box3 x2
    have x3 := box_set3 x2 (.int .i64 0) (.int .i64 0) (.slice none 0 0)
    have d0 := x3.cell 0
    have d1 := x3.cell 1
    have d2 := x3.cell 2
    simp at d0 d1 d2
    have Bf := below_set3 (HB0.out.trans (B2.mono HB0.out.size)) (k := w.heap.size + 1) (Nat.le_succ _) (.int .i64 0) (.int .i64 0) (.slice none 0 0)
    go_wp2_with fail
    exact bodyPost_ret (v := .tuple #[.agg #[.int .i64 0, .int .i64 0, .slice none 0 0], .int .i64 80]) (by simp [results, Tryz.results240, go_sem, d0, d1, d2]) rfl (.inr ⟨hno, rfl, Bf⟩)
  have hle : ¬ (16 : Int) < (b : Int) + ((m : Int) + 1) := by omega
  obtain ⟨i0, hi0, hz0, hz1, hz2⟩ := info_parts Rc.info31
  have HRow2 : Hid (Rc.RowB u2 gh ch X) := HRow.out.same (bb2.block gh HRow.out.lt)
  have al := (Below.refl u2.heap.size u2).alloc (Nat.le_refl _) (.cells #[.slice (some ⟨gh, 0, none⟩) 4096 ch] 37)
  have hst : Hid ((u2.alloc (.cells #[.slice (some ⟨gh, 0, none⟩) 4096 ch] 37)).ownsRow W0.heap.size 37 1 (.slice (some ⟨u2.heap.size, 0, none⟩) 1 1) 1 (Rc.lstC [⟨0, X, gh, ch⟩])) := ⟨rfl, .inr ⟨u2.heap.size, 1, #[.slice (some ⟨gh, 0, none⟩) 4096 ch], rfl, B2.size, Dk.Box.new u2 _ 37, Nat.le_refl _, by unfold maxLen; omega, rfl, rfl⟩⟩
  have hgj : Hid (Rc.GetJ W0.heap.size (u2.alloc (.cells #[.slice (some ⟨gh, 0, none⟩) 4096 ch] 37)) [⟨0, X, gh, ch⟩]) := ⟨fun p hp => by
    obtain rfl : p = ⟨0, X, gh, ch⟩ := by simpa using hp
    exact ⟨HRow2.out.same (al.block gh HRow2.out.lt), hgh, HX.out⟩, by simp⟩
  have hbl : Hid (Below W0.heap.size W0 (u2.alloc (.cells #[.slice (some ⟨gh, 0, none⟩) 4096 ch] 37))) := B2.trans (al.mono B2.size)
  have hq0 : Hid ([(⟨0, X, gh, ch⟩ : Rc.GG)].map Rc.GG.xs = ringB D t b 1) := by show [X] = _; rw [HXe.out]; simp [ringB]
  clear y0 y1 y2 y4 y5 y6 y7 y8 y9 y10 y11
  go_wp2_with fail
  clear y3
  generalize u2.alloc (.cells #[.slice (some ⟨gh, 0, none⟩) 4096 ch] 37) = u4 at hst hgj hbl al ⊢
  go_loopw [15, 16] (fun v15 v16 u => ∃ (j : Nat) (qs : List Rc.GG), 1 ≤ j ∧ j ≤ m + 1 ∧ v16 = .int .i64 ((b : Int) + (j : Int)) ∧ u.ownsRow W0.heap.size 37 1 v15 j (Rc.lstC qs) ∧ Rc.GetJ W0.heap.size u qs ∧ qs.map Rc.GG.xs = ringB D t b j ∧ Below W0.heap.size W0 u) (fun _ v16 _ => b + (m + 1) - (intOf v16).toNat)
  case atStart => exact ⟨1, [⟨0, X, gh, ch⟩], Nat.le_refl _, by omega, by push_cast; rfl, hst.out, hgj.out, hq0.out, hbl.out⟩
  case round =>
    clear hst hgj hbl hq0 al HRow2 HRow
    obtain ⟨j, qs, hj1, hj2, rfl, hown, hJ, hq, Bj⟩ := hrel
    have HJ : Hid (Rc.GetJ W0.heap.size wr qs) := hJ
    have HQ : Hid (qs.map Rc.GG.xs = ringB D t b j) := hq
    obtain ⟨av, cv, rfl⟩ := Rc.owns_shape hown
    clear hJ hq
    by_cases hlt : j < m + 1
    · have hlt' : (b : Int) + (j : Int) < (b : Int) + ((m : Int) + 1) := by omega
      have cB := HBk.out wr (b + j) (HB0.out.trans (Bj.mono HB0.out.size)) (by omega)
      have ebj : ((b + j : Nat) : Int) = (b : Int) + (j : Int) := by omega
      rw [ebj] at cB
      have HX4 : Hid ((D.stand (2 + (t + (b + j)) % 16)).length = 4096) := HLn.out (b + j)
      have HSc : Hid (ringB D t b (j + 1) = ringB D t b j ++ [D.stand (2 + (t + (b + j)) % 16)]) := ringB_succ D t b j
      generalize D.stand (2 + (t + (b + j)) % 16) = Y at cB HX4 HSc
      obtain ⟨y0, y1, y2, y3, y4, y5, y6, y7, y8, y9, y10, y11⟩ := HC.out wr Bj
      have HOWN : Hid (wr.ownsRow W0.heap.size 37 1 (.slice av j cv) j (Rc.lstC qs)) := hown
      clear hown ebj
      go_wp2_with fail
      refine Calls.mono cB ?_
      rintro r v1 ⟨gr, cr, rfl, hgr, hrow, bb1⟩
      clear cB y0 y1 y2 y3 y4 y5 y6 y7 y8 y9 y10 y11
      have O1 : Hid (v1.ownsRow W0.heap.size 37 1 (.slice av j cv) j (Rc.lstC qs)) := Rc.owns_below HOWN.out bb1
      have own1 := (O1.out).alloc (.cells #[.slice (some ⟨gr, 0, none⟩) 4096 cr] 37)
      have B1 := Bj.trans (bb1.mono Bj.size)
      have J1 : Hid (Rc.GetJ W0.heap.size v1 (qs ++ [⟨0, Y, gr, cr⟩])) := HJ.out.snoc bb1 ⟨0, Y, gr, cr⟩ hrow hgr HX4.out Bj.size
      clear bb1 hrow
      have z1 := B1.size
      go_wp2_with (at_builtin; refine wpList_append_own _ rfl _ _ 46 rfl W0.heap.size 37 i0 (.slice none 0 0) 1 24 Tryz.underlying46 hi0 hz0 hz1 hz2 rfl (by decide) _ j _ rfl own1 ⟨v1.heap.size, 0, none⟩ 1 1 [.slice (some ⟨gr, 0, none⟩) 4096 cr] rfl rfl ?c1 ?c2 ?c3 ?c4 ?c5 ?_)
      case c1 =>
        intro i u hi'
        match i, hi' with
        | 0, hi' => simp at hi'; subst hi'; simp [Addr.add]
      case c2 => intro u hu; simp at hu; subst hu; rfl
      case c3 => unfold maxLen; omega
      case c4 => omega
      case c5 => simp; omega
      · intro v' v2 hown2 hgrow _
        have al1 := (Below.refl v1.heap.size v1).alloc (Nat.le_refl _) (.cells #[.slice (some ⟨gr, 0, none⟩) 4096 cr] 37)
        have B2' : Below W0.heap.size W0 v2 := (B1.alloc z1 _).grown hgrow (by simp; omega) (fun k hk => (O1.out.lt k hk).1)
        have J2 : Rc.GetJ W0.heap.size v2 (qs ++ [⟨0, Y, gr, cr⟩]) := (J1.out.below al1).grown own1 (by decide) hgrow
        clear hgrow own1 al1
        go_wp2_with fail
        go_roundw
        case rel => exact ⟨j + 1, qs ++ [⟨0, Y, gr, cr⟩], by omega, by omega, by push_cast; rw [Int.add_assoc], by simpa [Rc.lstC] using hown2, J2, by rw [List.map_append, HQ.out, HSc.out]; rfl, B2'⟩
        case measure => simp [intOf]; omega
    · obtain rfl : j = m + 1 := by omega
      have hql : qs.length = m + 1 := by
        have := congrArg List.length HQ.out
        rw [List.length_map, ringB_length] at this
        exact this
      have hLs := Rc.lsts_of hown HJ.out hql
      rw [HQ.out] at hLs
      have cG := Rc.get_in av (m + 1) cv (ringB D t b (m + 1)) wr (ringB_length _ _ _ _) (by omega) (by omega) hLs
      have hge : ¬ (b : Int) + ((m + 1 : Nat) : Int) < (b : Int) + ((m : Int) + 1) := by omega
      clear hown hLs hql hlt
      go_wp2_with fail
      refine Calls.mono cG ?_
      have hml : (Rc.saidEs X).length = m := by rw [HXe.out]; exact HM.out
      rintro r v1 (⟨hG, a, c, ps, rfl, ho, hj, hps, bb⟩ | ⟨hG, rfl, bb⟩)
      · have B3 := Bj.trans (bb.mono Bj.size)
        rw [ringB_head D t b m, ← HXe.out, hml] at ho hps
        rw [ringB_head D t b m, ← HXe.out, hml, HHd.out.2.1, HHd.out.2.2]
        have x2 := HX1.out.below B3
        obtain ⟨⟨q0, q1, q2⟩, p0, p1, p2⟩ := box3 x2
        have x3 := box_set3 x2 (.int .i64 (E : Int)) (.int .i64 (s : Int)) (.slice a m c)
        have d0 := x3.cell 0
        have d1 := x3.cell 1
        have d2 := x3.cell 2
        simp at d0 d1 d2
        have Bf := below_set3 (HB0.out.trans (B3.mono HB0.out.size)) (k := w.heap.size + 1) (Nat.le_succ _) (.int .i64 (E : Int)) (.int .i64 (s : Int)) (.slice a m c)
        have hbase : w.heap.size ≤ wr.heap.size := Nat.le_trans HB0.out.size Bj.size
        have hset : ∀ k, k ≠ w.heap.size + 1 → (((v1.setCell ⟨w.heap.size + 1, 0, none⟩ (.int .i64 (E : Int))).setCell ⟨w.heap.size + 1, 1, none⟩ (.int .i64 (s : Int))).setCell ⟨w.heap.size + 1, 2, none⟩ (.slice a m c)).heap[k]? = v1.heap[k]? := fun k hk => by
          rw [heap_setCell_other _ ⟨w.heap.size + 1, 2, none⟩ k _ (by simpa using hk), heap_setCell_other _ ⟨w.heap.size + 1, 1, none⟩ k _ (by simpa using hk), heap_setCell_other _ ⟨w.heap.size + 1, 0, none⟩ k _ (by simpa using hk)]
        have Ho : Hid ((((v1.setCell ⟨w.heap.size + 1, 0, none⟩ (.int .i64 (E : Int))).setCell ⟨w.heap.size + 1, 1, none⟩ (.int .i64 (s : Int))).setCell ⟨w.heap.size + 1, 2, none⟩ (.slice a m c)).ownsRow w.heap.size 89 2 (.slice a m c) m (Rc.imgC ps)) := by
          have ho' := J.owns_kept ho (fun k hk => hset k (fun e => by
            obtain ⟨_, cur, hb94⟩ := Rc.owns_block ho k hk
            subst e
            exact x2.ne hb94 (by decide) rfl))
          refine ⟨ho'.1, ?_⟩
          rcases ho'.2 with h1 | ⟨g', cap', cur, e, hb', rr⟩
          · exact .inl h1
          · exact .inr ⟨g', cap', cur, e, Nat.le_trans hbase hb', rr⟩
        have Hj : Hid (Rc.GetJ w.heap.size (((v1.setCell ⟨w.heap.size + 1, 0, none⟩ (.int .i64 (E : Int))).setCell ⟨w.heap.size + 1, 1, none⟩ (.int .i64 (s : Int))).setCell ⟨w.heap.size + 1, 2, none⟩ (.slice a m c)) ps) := ⟨fun p hp => by
          obtain ⟨a1, a2, a3⟩ := hj.rows p hp
          refine ⟨a1.same (hset p.h (fun e => ?_)), Nat.le_trans hbase a2, a3⟩
          obtain ⟨cur, hb5, _⟩ := a1
          rw [e] at hb5
          exact x2.ne hb5 (by decide) rfl, hj.apart⟩
        have HP : Hid (ps.map (fun p => (p.b, p.xs)) = gimgs D t b) := by
          show _ = _
          rw [hps]
          unfold gimgs
          rw [HM.out, ← HXe.out]
        have HGk : Hid (GOk D t E b s) := by
          refine ⟨by rw [← HXe.out]; exact HHd.out, by rw [HM.out]; exact hfit, by rw [HM.out]; exact hG⟩
        have HBf : Hid (Below w.heap.size w (((v1.setCell ⟨w.heap.size + 1, 0, none⟩ (.int .i64 (E : Int))).setCell ⟨w.heap.size + 1, 1, none⟩ (.int .i64 (s : Int))).setCell ⟨w.heap.size + 1, 2, none⟩ (.slice a m c))) := Bf
        clear ho hj hps hset Bf hG
        go_wp2_with fail
        refine bodyPost_ret (v := .tuple #[.agg #[.int .i64 (E : Int), .int .i64 (s : Int), .slice a m c], .int .i64 0]) (by simp [results, Tryz.results240, go_sem, d0, d1, d2]) rfl (.inl ⟨HGk.out, a, c, ps, ?_⟩)
        rw [HM.out]
        exact ⟨rfl, Ho.out, Hj.out, HP.out, HBf.out⟩
      · have B3 := Bj.trans (bb.mono Bj.size)
        have hno : ¬ GOk D t E b s := fun h => hG (by have := h.2.2; rw [HM.out] at this; exact this)
        clear hG
        have x2 := HX1.out.below B3
        obtain ⟨⟨q0, q1, q2⟩, p0, p1, p2⟩ := box3 x2
        have x3 := box_set3 x2 (.int .i64 0) (.int .i64 0) (.slice none 0 0)
        have d0 := x3.cell 0
        have d1 := x3.cell 1
        have d2 := x3.cell 2
        simp at d0 d1 d2
        have Bf := below_set3 (HB0.out.trans (B3.mono HB0.out.size)) (k := w.heap.size + 1) (Nat.le_succ _) (.int .i64 0) (.int .i64 0) (.slice none 0 0)
        go_wp2_with fail
        exact bodyPost_ret (v := .tuple #[.agg #[.int .i64 0, .int .i64 0, .slice none 0 0], .int .i64 80]) (by simp [results, Tryz.results240, go_sem, d0, d1, d2]) rfl (.inr ⟨hno, rfl, Bf⟩)
end Go.Proofs.YtnldkpckojhbhaaGreat.S

/-
  The groups of a ring, handed on one by one.
-/
namespace Go.Proofs.YtnldkpckojhbhaaGreat.S
open Go.RowKit Go.Shelf
open Go.Proofs.YtnldkpckojhbhaaGreat.Dk (Box)
attribute [local go_sem] Oper.semAt_some

def Cons (bt bb : Nat) (W : World) (k : Nat) : Prop := k = bt ∨ k = bb ∨ ∃ v, W.cell? ⟨bt, 0, none⟩ = some v ∧ v.ownBlock = some k
structure Kp (bt bb : Nat) (W W' : World) : Prop where
  size : W.heap.size ≤ W'.heap.size
  block : ∀ (k : Nat) (o : Obj), W.heap[k]? = some o → o.isCells = true → ¬ Cons bt bb W k → W'.heap[k]? = some o
  cons : ∀ k, Cons bt bb W' k → Cons bt bb W k ∨ (W.heap.size ≤ k ∧ k < W'.heap.size)
def Tl (n0 bt bb Br : Nat) (W : World) : Prop := Br < W.heap.size ∧ ∀ k, Cons bt bb W k → n0 ≤ k ∧ k < W.heap.size ∧ k ≠ Br
theorem Kp.trans {bt bb : Nat} {A B C : World} (h : Kp bt bb A B) (k : Kp bt bb B C) : Kp bt bb A C := by
  refine ⟨Nat.le_trans h.size k.size, fun i o hi ho hc => k.block i o (h.block i o hi ho hc) ho (fun hB => ?_), fun i hi => ?_⟩
  · have hlt := (Array.getElem?_eq_some_iff.1 hi).1
    rcases h.cons i hB with h1 | h1
    · exact hc h1
    · omega
  · have := h.size
    have := k.size
    rcases k.cons i hi with h1 | h1
    · rcases h.cons i h1 with h2 | h2
      · exact .inl h2
      · exact .inr (by omega)
    · exact .inr (by omega)
theorem Tl.kp {n0 bt bb Br : Nat} {A B : World} (h : Tl n0 bt bb Br A) (k : Kp bt bb A B) (hn : n0 ≤ A.heap.size) : Tl n0 bt bb Br B := by
  refine ⟨Nat.lt_of_lt_of_le h.1 k.size, fun i hi => ?_⟩
  have := k.size
  have hB := h.1
  rcases k.cons i hi with h1 | h1
  · obtain ⟨a1, a2, a3⟩ := h.2 i h1
    exact ⟨a1, by omega, a3⟩
  · exact ⟨by omega, h1.2, by omega⟩
theorem Cons.below {bt bb : Nat} {A B : World} (b : Below A.heap.size A B) (hbt : bt < A.heap.size) {k : Nat} (h : Cons bt bb B k) : Cons bt bb A k := by
  rcases h with h | h | ⟨v, h1, h2⟩
  · exact .inl h
  · exact .inr (.inl h)
  · exact .inr (.inr ⟨v, (b.cell (p := ⟨bt, 0, none⟩) hbt).symm.trans h1, h2⟩)
theorem Tl.below {n0 bt bb Br : Nat} {A B : World} (h : Tl n0 bt bb Br A) (b : Below A.heap.size A B) : Tl n0 bt bb Br B := by
  have hz := b.size
  refine ⟨Nat.lt_of_lt_of_le h.1 hz, fun k hk => ?_⟩
  obtain ⟨_, hbt, _⟩ := h.2 bt (.inl rfl)
  obtain ⟨a1, a2, a3⟩ := h.2 k (hk.below b hbt)
  exact ⟨a1, by omega, a3⟩

structure Gx where
  b : Nat
  s : Nat
  m : Nat
  a : Option Addr
  c : Nat
  ps : List Rc.GG
def encG (E : Nat) (x : Gx) : Array Value := #[.agg #[.int .i64 (E : Int), .int .i64 (x.s : Int), .slice x.a x.m x.c], .int .i64 0]
def GA (D : Dk.DS) (t E : Nat) (x : Gx) (W : World) : Prop :=
  GOk D t E x.b x.s ∧ x.m = cntAt D t x.b ∧ W.ownsRow 0 89 2 (.slice x.a x.m x.c) x.m (Rc.imgC x.ps) ∧ Rc.GetJ 0 W x.ps ∧ x.ps.map (fun p => (p.b, p.xs)) = gimgs D t x.b
def Run (D : Dk.DS) (t E : Nat) : Nat → Nat → List Gx → Prop
  | b, s, [] => ¬ GOk D t E b s
  | b, s, x :: r => (x.b = b ∧ x.s = s ∧ GOk D t E b s ∧ x.m = cntAt D t b) ∧ Run D t E (b + (cntAt D t b + 1)) (s + 1) r
def Upto (D : Dk.DS) (t E : Nat) : Nat → Nat → List Gx → Nat → Nat → Prop
  | b, s, [], b', s' => b = b' ∧ s = s'
  | b, s, x :: r, b', s' => (x.b = b ∧ x.s = s ∧ GOk D t E b s ∧ x.m = cntAt D t b) ∧ Upto D t E (b + (cntAt D t b + 1)) (s + 1) r b' s'
theorem Upto.snoc {D : Dk.DS} {t E : Nat} : ∀ {xs : List Gx} {b s b' s' : Nat} {x : Gx}, Upto D t E b s xs b' s' → (x.b = b' ∧ x.s = s' ∧ GOk D t E b' s' ∧ x.m = cntAt D t b') → Upto D t E b s (xs ++ [x]) (b' + (cntAt D t b' + 1)) (s' + 1)
  | [], _, _, _, _, _, ⟨rfl, rfl⟩, h => ⟨h, rfl, rfl⟩
  | _ :: _, _, _, _, _, _, ⟨h1, h2⟩, h => ⟨h1, h2.snoc h⟩
theorem Upto.len {D : Dk.DS} {t E : Nat} : ∀ {xs : List Gx} {b s b' s' : Nat}, Upto D t E b s xs b' s' → b + xs.length ≤ b'
  | [], _, _, _, _, ⟨rfl, _⟩ => Nat.le_refl _
  | _ :: _, _, _, _, _, ⟨_, h2⟩ => by
    have := h2.len
    simp only [List.length_cons]
    omega
theorem Upto.done {D : Dk.DS} {t E : Nat} : ∀ {xs : List Gx} {b s b' s' : Nat}, Upto D t E b s xs b' s' → ¬ GOk D t E b' s' → Run D t E b s xs
  | [], _, _, _, _, ⟨rfl, rfl⟩, h => h
  | _ :: _, _, _, _, _, ⟨h1, h2⟩, h => ⟨h1, h2.done h⟩

theorem box_kp {bt bb g : Nat} {A B : World} {cs : Array Value} {ty : TypeId} (h : Box A g cs ty) (k : Kp bt bb A B) (hc : ¬ Cons bt bb A g) : Box B g cs ty := k.block g _ h rfl hc

set_option maxRecDepth 100000 in
set_option maxHeartbeats 4000000 in
theorem prod_in (n : Nat) (hn : 1 ≤ n) (l Br bt bb dg n0 : Nat) (D : Dk.DS) (F : Nat → Prop) (t E S0 : Nat) (Bk : Int) (ht : t < 16) (hnb : D.nb = 64) (hgn : D.gone = false) (hlim : D.uf.length ≤ 1000000) (hS0 : S0 ≤ 549755813888) (J : List Gx → World → Prop) (W : World)
    (hd : Dk.IsDisk W dg D F) (hFc : ∀ k, F k → k < n0 ∧ ∃ o : Obj, W.heap[k]? = some o ∧ o.isCells = true) (hBr : Box W Br (rC dg Bk (E : Int) (S0 : Int) (t : Int)) 261) (hT : Tl n0 bt bb Br W) (hn0 : n0 ≤ W.heap.size)
    (hJ : ∀ pre A B, J pre A → Below A.heap.size A B → J pre B)
    (hY : ∀ pre x W1, J pre W1 → GA D t E x W1 → pre.length < 16 → YieldAt Fence.wide (n - 1) Tryz.prog l (encG E x) W1 fun e W' => e = .returned (.bool true) ∧ J (pre ++ [x]) W' ∧ Kp bt bb W1 W') (h0 : J [] W) :
    CallsIn Fence.wide n Tryz.prog 239 #[.func (.yield l) #[] #[], .pointer (some ⟨Br, 0, none⟩)] W fun e W' => (∃ v, e = .returned v) ∧ ∃ xs, Run D t E 0 S0 xs ∧ J xs W' := by
  have c10 := (r_cells hBr).2.2.2.2.2.2.2.2.2.2.1
  have HD : Hid (∀ A : World, (∀ k, F k → A.heap[k]? = W.heap[k]?) → W.heap.size ≤ A.heap.size → Dk.IsDisk A dg D F) := fun A hA hz => by
    obtain ⟨gd, cd, vu, ps, hl⟩ := hd
    exact ⟨gd, cd, vu, ps, hl.kept hA hz⟩
  have HFc : Hid (∀ k, F k → k < n0 ∧ ∃ o : Obj, W.heap[k]? = some o ∧ o.isCells = true) := hFc
  have HT : Hid (Tl n0 bt bb Br W) := hT
  have HBr : Hid (Box W Br (rC dg Bk (E : Int) (S0 : Int) (t : Int)) 261) := hBr
  have HJ : Hid (∀ pre A B, J pre A → Below A.heap.size A B → J pre B) := hJ
  have HY : Hid (∀ pre x W1, J pre W1 → GA D t E x W1 → pre.length < 16 → YieldAt Fence.wide (n - 1) Tryz.prog l (encG E x) W1 fun e W' => e = .returned (.bool true) ∧ J (pre ++ [x]) W' ∧ Kp bt bb W1 W') := hY
  have H0 : Hid (J [] W) := h0
  clear hd hFc hBr hT hJ hY h0
  refine callsIn_of_wp Tryz.func239 rfl trivial ?_ rfl
  simp only [Tryz.ntmps239, List.size_toArray, List.length_cons, List.length_nil, Nat.reduceAdd, Nat.reduceSub, Array.replicate_succ, Array.replicate_zero, List.push_toArray, List.append_toArray, List.nil_append, List.cons_append]
  gi_wp2
  clear c10
  gi_loopw [3, 4] (fun v3 v4 wr => ∃ (b s : Nat) (xs : List Gx), b ≤ 16 ∧ s ≤ S0 + b ∧ v3 = .int .i64 (b : Int) ∧ v4 = .int .i64 (s : Int) ∧ Upto D t E 0 S0 xs b s ∧ J xs wr ∧ (∀ k, F k → wr.heap[k]? = W.heap[k]?) ∧ Box wr Br (rC dg Bk (E : Int) (S0 : Int) (t : Int)) 261 ∧ Tl n0 bt bb Br wr ∧ W.heap.size ≤ wr.heap.size)
    (fun v3 _ _ => 17 - (intOf v3).toNat)
  case atStart => exact ⟨0, S0, [], by omega, by omega, rfl, rfl, ⟨rfl, rfl⟩, H0.out, fun _ _ => rfl, HBr.out, HT.out, Nat.le_refl _⟩
  case round =>
    obtain ⟨b, s, xs, hb, hs, rfl, rfl, hU, hJs, hFs, hBx, hTs, hz⟩ := hrel
    obtain ⟨y0, y1, y2, y3, y4, y5, y6, y7, y8, y9, y10, y11⟩ := r_cells hBx
    have cG := group_at (HD.out wr hFs hz) hnb hgn hlim Bk (S0 : Int) t E b s ht hb
    have HU : Hid (Upto D t E 0 S0 xs b s) := hU
    have HJs : Hid (J xs wr) := hJs
    have HFs : Hid (∀ k, F k → wr.heap[k]? = W.heap[k]?) := hFs
    have HBx : Hid (Box wr Br (rC dg Bk (E : Int) (S0 : Int) (t : Int)) 261) := hBx
    have HTs : Hid (Tl n0 bt bb Br wr) := hTs
    clear hU hJs hFs hBx hTs
    unfold rC at cG
    gi_wp2_with fail
    refine ⟨trivial, ?_⟩
    refine ((callsIn_wide (n := n - 1)).2 cG).mono ?_
    rintro r u1 (⟨hG, a, c, ps, rfl, ho, hj, hps, bb1⟩ | ⟨hG, rfl, bb1⟩)
    · have hfit := hG.2.1
      have hm1 : 1 ≤ cntAt D t b ∧ cntAt D t b ≤ 32 := by
        have h := hG.1.1.2.1.2.1
        simpa [cntAt] using h
      obtain ⟨m, hm⟩ : ∃ m, m = cntAt D t b := ⟨_, rfl⟩
      have HM : Hid (m = cntAt D t b) := hm
      rw [← hm] at ho hfit hm1 ⊢
      clear hm
      have al := (Below.refl u1.heap.size u1).alloc (Nat.le_refl _) (.cells #[.int .i64 (E : Int), .int .i64 (s : Int), .slice a m c] 203)
      have bz := bb1.trans (al.mono bb1.size)
      have hJz := HJ.out xs wr _ HJs.out bz
      have hTz := HTs.out.below bz
      have hGA : GA D t E ⟨b, s, m, a, c, ps⟩ (u1.alloc (.cells #[.int .i64 (E : Int), .int .i64 (s : Int), .slice a m c] 203)) := by
        refine ⟨hG, HM.out, ?_, ⟨fun p hp => ?_, hj.apart⟩, hps⟩
        · have ho' := Rc.owns_below ho al
          refine ⟨ho'.1, ?_⟩
          rcases ho'.2 with h1 | ⟨g', cap', cur, e, _, rr⟩
          · exact .inl h1
          · exact .inr ⟨g', cap', cur, e, Nat.zero_le _, rr⟩
        · obtain ⟨a1, _, a3⟩ := hj.rows p hp
          exact ⟨a1.same (al.block p.h a1.lt), Nat.zero_le _, a3⟩
      obtain ⟨fn, tmps, assign, body, hy, hR⟩ := HY.out xs ⟨b, s, m, a, c, ps⟩ _ hJz hGA (by have := HU.out.len; omega)
      dsimp only [encG] at hy
      have x5 := Dk.Box.new u1 #[.int .i64 (E : Int), .int .i64 (s : Int), .slice a m c] 203
      have hc5 : ¬ Cons bt bb (u1.alloc (.cells #[.int .i64 (E : Int), .int .i64 (s : Int), .slice a m c] 203)) u1.heap.size := fun h => by
        have hbt := (HTs.out.2 bt (.inl rfl)).2.1
        have h' := h.below bz hbt
        have h2 := (HTs.out.2 _ h').2.1
        have := bb1.size
        omega
      have HG : Hid (GOk D t E b s) := hG
      have HRs : Hid (∀ B : World, Kp bt bb (u1.alloc (.cells #[.int .i64 (E : Int), .int .i64 (s : Int), .slice a m c] 203)) B → (∀ k, F k → B.heap[k]? = W.heap[k]?) ∧ Box B Br (rC dg Bk (E : Int) (S0 : Int) (t : Int)) 261 ∧ Tl n0 bt bb Br B ∧ W.heap.size ≤ B.heap.size ∧ Box B u1.heap.size #[.int .i64 (E : Int), .int .i64 (s : Int), .slice a m c] 203) := fun B hk => by
        refine ⟨fun k hF => ?_, box_kp (HBx.out.below bz) hk (fun h => (hTz.2 _ h).2.2 rfl), hTz.kp hk (by have := bz.size; omega), by have := bz.size; have := hk.size; omega, box_kp x5 hk hc5⟩
        obtain ⟨h1, o, h2, h3⟩ := HFc.out k hF
        have h4 : (u1.alloc (.cells #[.int .i64 (E : Int), .int .i64 (s : Int), .slice a m c] 203)).heap[k]? = some o := (bz.block k (by omega)).trans ((HFs.out k hF).trans h2)
        rw [hk.block k o h4 h3 (fun h => by have := (hTz.2 _ h).1; omega), h2]
      have cB := Rc.blocks_at (m : Int)
      have ebl : Rc.blocksN (m : Int) = ((m + 1 : Nat) : Int) := by
        unfold Rc.blocksN
        rw [if_pos (by omega)]
        omega
      rw [ebl] at cB
      clear ebl cG bb1 bz al hJz hTz hGA ho hj hps hG y0 y1 y2 y3 y4 y5 y6 y7 y8 y9 y10 y11
      have q0 := x5.cell 0
      have q1 := x5.cell 1
      have q2 := x5.cell 2
      simp at q0 q1 q2
      gi_wp2_with fail
      refine hR.mono ?_
      rintro e W3 ⟨rfl, hJ3, hk3⟩
      obtain ⟨f1, f2, f3, f4, f5⟩ := HRs.out W3 hk3
      have e2 := f5.cell 2
      simp at e2
      have HJ3 : Hid (J (xs ++ [⟨b, s, m, a, c, ps⟩]) W3) := hJ3
      have HF1 : Hid (∀ k, F k → W3.heap[k]? = W.heap[k]?) := f1
      have HF2 : Hid (Box W3 Br (rC dg Bk (E : Int) (S0 : Int) (t : Int)) 261) := f2
      have HF3 : Hid (Tl n0 bt bb Br W3) := f3
      clear hJ3 f1 f2 f3 hk3 hR q0 q1 q2 hy HRs
      gi_wp2_with fail
      refine ⟨trivial, ?_⟩
      refine ((callsIn_wide (n := n - 1)).2 (cB W3)).mono ?_
      rintro r W4 ⟨rfl, rfl⟩
      gi_wp2_with fail
      go_roundw
      case rel => exact ⟨b + (m + 1), s + 1, _, hfit, by omega, by push_cast; rfl, by push_cast; rfl, by have h := HU.out.snoc (x := ⟨b, s, m, a, c, ps⟩) ⟨rfl, rfl, HG.out, HM.out⟩; rw [← HM.out] at h; exact h, HJ3.out, HF1.out, HF2.out, HF3.out, f4⟩
      case measure => simp [intOf]; omega
    · have bz := bb1.alloc bb1.size (.cells #[.int .i64 0, .int .i64 0, .slice none 0 0] 203)
      have hJz := HJ.out xs wr _ HJs.out bz
      have hRun := HU.out.done hG
      clear cG bb1 bz y0 y1 y2 y3 y4 y5 y6 y7 y8 y9 y10 y11
      gi_wp2_with fail
      refine bodyPost_ret (results_none rfl _ _ _) rfl ?_
      exact ⟨⟨_, rfl⟩, xs, hRun, hJz⟩
end Go.Proofs.YtnldkpckojhbhaaGreat.S

/-
  The reader's groups as a function that is ranged over.
-/
namespace Go.Proofs.YtnldkpckojhbhaaGreat.S
open Go.RowKit Go.Shelf
open Go.Proofs.YtnldkpckojhbhaaGreat.Dk (Box)

theorem hands9 (n : Nat) (hn : 1 ≤ n) (Br bt bb dg n0 : Nat) (D : Dk.DS) (F : Nat → Prop) (t E S0 : Nat) (Bk : Int) (ht : t < 16) (hnb : D.nb = 64) (hgn : D.gone = false) (hlim : D.uf.length ≤ 1000000) (hS0 : S0 ≤ 549755813888) (w : World)
    (hd : Dk.IsDisk w dg D F) (hFc : ∀ k, F k → k < n0 ∧ ∃ o : Obj, w.heap[k]? = some o ∧ o.isCells = true) (hBr : Box w Br (rC dg Bk (E : Int) (S0 : Int) (t : Int)) 261) (hT : Tl n0 bt bb Br w) (hn0 : n0 ≤ w.heap.size) :
    Hands Fence.wide n Tryz.prog 239 #[.pointer (some ⟨Br, 0, none⟩)] (encG E) (fun pre x W => GA D t E x W ∧ pre.length < 16) (Kp bt bb) (Run D t E 0 S0) w := by
  intro l J W b hA hY h0
  refine prod_in n hn l Br bt bb dg n0 D F t E S0 Bk ht hnb hgn hlim hS0 J W (hd.below b) (fun k hk => ?_) (hBr.below b) (hT.below b) (by have := b.size; omega) (fun pre A B hs hb => ?_) (fun pre x W1 hj hg hp => hY pre x W1 hj ⟨hg, hp⟩) h0
  · obtain ⟨h1, o, h2, h3⟩ := hFc k hk
    exact ⟨h1, o, (b.block k (by omega)).trans h2, h3⟩
  · exact hA pre A B none hs ⟨hb.os, hb.tape, hb.output, hb.size, fun k hk _ => hb.block k hk⟩ (fun r e => by cases e)
theorem reader_at (w : World) (dg : Nat) (Bk E S t : Int) : Calls Tryz.prog 206 #[.agg (rC dg Bk E S t)] w fun r w' => r = .returned (.func (.func 239) #[] #[.pointer (some ⟨w.heap.size, 0, none⟩)]) ∧ Box w' w.heap.size (rC dg Bk E S t) 261 ∧ Below w.heap.size w w' := by
  have b := (Below.refl w.heap.size w).alloc (Nat.le_refl _) (.cells (rC dg Bk E S t) 261)
  have x := Dk.Box.new w (rC dg Bk E S t) 261
  unfold rC at b x ⊢
  go_enter Tryz.func206, Tryz.ntmps206
  go_wp2_with fail
  go_ret
  exact ⟨rfl, x, b⟩
theorem disk_cells {w : World} {g : Nat} {D : Dk.DS} {F : Nat → Prop} (h : Dk.IsDisk w g D F) : Dk.IsDisk w g D (fun k => F k ∧ ∃ o : Obj, w.heap[k]? = some o ∧ o.isCells = true) := by
  obtain ⟨gd, cd, vu, ps, h⟩ := h
  refine ⟨gd, cd, vu, ps, ⟨h.box, h.dur, h.row, h.len, fun k h1 h2 => ?_, ⟨h.fg, _, h.box, rfl⟩, ⟨h.fd, ?_⟩, fun k hk => ⟨h.fu k hk, ?_⟩, fun i hi => h.flt i hi.1, h.ok⟩⟩
  · obtain ⟨a, b, c, d⟩ := h.each k h1 h2
    refine ⟨a, b, c, d, ?_⟩
    obtain ⟨cur, hb, _⟩ := b
    exact ⟨_, hb, rfl⟩
  · obtain ⟨cur, hb, _⟩ := h.dur
    exact ⟨_, hb, rfl⟩
  · obtain ⟨_, cur, hb⟩ := Rc.owns_block h.row k hk
    exact ⟨_, hb, rfl⟩
end Go.Proofs.YtnldkpckojhbhaaGreat.S

/-
  What holds while Groups ranges over its groups.
-/
namespace Go.Proofs.YtnldkpckojhbhaaGreat.S
open Go.RowKit Go.Shelf
open Go.Proofs.YtnldkpckojhbhaaGreat.Dk (Box)

def tot (xs : List Gx) : Nat := (xs.map fun x => x.m + 1).sum
def gsC (E : Nat) (xs : List Gx) : List Value := xs.flatMap fun x => [.int .i64 (E : Int), .int .i64 (x.s : Int), .slice x.a x.m x.c]
theorem tot_snoc (xs : List Gx) (x : Gx) : tot (xs ++ [x]) = tot xs + (x.m + 1) := by simp [tot]
theorem gsC_snoc (E : Nat) (xs : List Gx) (x : Gx) : gsC E (xs ++ [x]) = gsC E xs ++ [.int .i64 (E : Int), .int .i64 (x.s : Int), .slice x.a x.m x.c] := by simp [gsC]

theorem GA.kept {D : Dk.DS} {t E : Nat} {x : Gx} {W W' : World} (h : GA D t E x W) (hk : ∀ (k : Nat) (cs : Array Value) (ty : TypeId), Box W k cs ty → ty = 89 ∨ ty = 5 → W'.heap[k]? = W.heap[k]?) : GA D t E x W' := by
  obtain ⟨h1, h2, h3, h4, h5⟩ := h
  refine ⟨h1, h2, J.owns_kept h3 (fun k hk' => ?_), ⟨fun p hp => ?_, h4.apart⟩, h5⟩
  · obtain ⟨_, cur, hb⟩ := Rc.owns_block h3 k hk'
    exact hk k _ _ hb (.inl rfl)
  · obtain ⟨a1, a2⟩ := h4.rows p hp
    obtain ⟨cur, hb, rest⟩ := a1
    exact ⟨Rc.RowB.same ⟨cur, hb, rest⟩ (hk p.h _ _ hb (.inr rfl)), a2⟩

structure I9 (w : World) (D : Dk.DS) (t E S0 dg bt bb rd : Nat) (pre : List Gx) (W : World) : Prop where
  row : ∃ v, Box W bt #[v] 161 ∧ W.ownsRow w.heap.size 203 3 v pre.length (gsC E pre)
  sum : Box W bb #[.int .i64 (tot pre : Int)] 3
  all : ∀ x ∈ pre, GA D t E x W
  rdr : Box W rd (rC dg 64 (E : Int) (S0 : Int) (t : Int)) 261
  o2 : Box W (w.heap.size + 2) #[.slice none 0 0] 161
  o3 : Box W (w.heap.size + 3) #[.int .i64 0] 3
  o4 : Box W (w.heap.size + 4) #[.int .i64 0] 26
  bel : Below w.heap.size w W
section
variable {w W W' : World} {D : Dk.DS} {t E S0 dg bt bb rd : Nat} {pre : List Gx}
theorem I9.kept (h : I9 w D t E S0 dg bt bb rd pre W) (hk : ∀ (k : Nat) (cs : Array Value) (ty : TypeId), Box W k cs ty → W'.heap[k]? = W.heap[k]?) (b : Below w.heap.size w W') : I9 w D t E S0 dg bt bb rd pre W' := by
  obtain ⟨⟨v, h1, h2⟩, h3, h4, h5, h6, h7, h8, _⟩ := h
  refine ⟨⟨v, (hk _ _ _ h1).trans h1, J.owns_kept h2 (fun k hk' => ?_)⟩, (hk _ _ _ h3).trans h3, fun x hx => (h4 x hx).kept (fun k cs ty hb _ => hk k cs ty hb), (hk _ _ _ h5).trans h5, (hk _ _ _ h6).trans h6, (hk _ _ _ h7).trans h7, (hk _ _ _ h8).trans h8, b⟩
  obtain ⟨_, cur, hb⟩ := Rc.owns_block h2 k hk'
  exact hk k _ _ hb
theorem I9.own {B : Nat} (hB : w.heap.size ≤ B) : OwnFrom B (fun pre W => I9 w D t E S0 dg bt bb rd pre W) := fun pre A C row hs hg hr =>
  I9.kept hs (fun k cs ty hb => hg.block k hb.lt (fun e => by
    obtain ⟨_, o, ho, hc⟩ := hr k e.symm
    have hb' : A.heap[k]? = some (.cells cs ty) := hb
    rw [hb'] at ho
    cases ho
    cases hc)) (hs.bel.grown hg hs.bel.size (fun k e => Nat.le_trans hB (hr k e).1))
theorem I9.below (h : I9 w D t E S0 dg bt bb rd pre W) (b : Below W.heap.size W W') : I9 w D t E S0 dg bt bb rd pre W' := h.kept (fun k _ _ hb => b.block k hb.lt) (h.bel.trans (b.mono h.bel.size))
theorem kp_put {B l : Nat} {o : Obj} (o' : Obj) (hbt : bt < B) (hl : B ≤ l) (ho : W.heap[l]? = some o) (hc : o.isCells = false) : Kp bt bb W (W.putObj l o') := by
  have hlt := (Array.getElem?_eq_some_iff.1 ho).1
  refine ⟨by simp [World.putObj], fun k o2 h2 c2 _ => ?_, fun k hk => .inl ?_⟩
  · by_cases hkl : k = l
    · subst hkl
      rw [ho] at h2
      cases h2
      rw [hc] at c2
      cases c2
    · exact (World.putObj_heap_other hkl).trans h2
  · rcases hk with h | h | ⟨v, h1, h2⟩
    · exact .inl h
    · exact .inr (.inl h)
    · refine .inr (.inr ⟨v, ?_, h2⟩)
      rw [← h1]
      exact (World.cell?_of_block (World.putObj_heap_other (by show bt ≠ l; omega))).symm
end
end Go.Proofs.YtnldkpckojhbhaaGreat.S

/-
  The law's images, made of a number; the layout of its disk.
-/
namespace Go.Proofs.YtnldkpckojhbhaaGreat.S
open Go.RowKit
open Go.Proofs.YtnldkpckojhbhaaGreat.Rc (GG GetJ imgC madeL RowB owns_below owns_shape owns_block)

def im9 (z : Int) (k : Nat) : List (Int × List UInt8) := (List.range k).map fun (i : Nat) => (30 + (i : Int), madeL (IntKind.i64.wrap (z + (i : Int))) 4096)
def lay : Array Value := #[.int .i64 64, .int .i64 2, .int .i64 16, .int .i64 18, .int .i64 19, .int .i64 4, .int .i64 23]
theorem lay64 : La.layA 64 = lay := by
  have hL : La.lgs 64 = 16 := by decide
  simp [La.layA, hL, lay]
end Go.Proofs.YtnldkpckojhbhaaGreat.S

/-
  What goes wrong ahead of all reading: nothing, of a right disk, layout and start.
-/
namespace Go.Proofs.YtnldkpckojhbhaaGreat.S
open Go.RowKit
open Go.Proofs.YtnldkpckojhbhaaGreat.Dk (Box)

theorem neq41 (u : World) : (binOp .neq 57 (.agg lay) (.agg lay)).run Tryz.prog u = .ok (.bool false) u := by
  have h := J.neq40 u 64
  rw [lay64] at h
  exact h
theorem right_at (B E S t : Int) (w : World) (ht : 0 ≤ t ∧ t ≤ 15) (hE : 1 ≤ E ∧ E ≤ 8388608) (hS : 1 ≤ S ∧ S ≤ 549755813888) :
    Calls Tryz.prog 238 #[.agg lay, .agg #[.int .i64 B, .int .i64 E, .int .i64 S, .int .i64 t]] w fun r w' => r = .returned (.bool true) ∧ Below w.heap.size w w' := by
  have B0 := ((Below.refl w.heap.size w).alloc (Nat.le_refl _) (.cells lay 57)).alloc (by simp) (.cells #[.int .i64 B, .int .i64 E, .int .i64 S, .int .i64 t] 141)
  unfold lay at B0 ⊢
  go_enter Tryz.func238, Tryz.ntmps238
  go_wp2_with fail
  refine (within_at _ _ _ _).mono ?_
  rintro r u1 ⟨rfl, rfl⟩
  rw [decide_eq_true (by omega)]
  go_wp2_with fail
  refine (within_at _ _ _ _).mono ?_
  rintro r u1 ⟨rfl, rfl⟩
  rw [decide_eq_true hE]
  go_wp2_with fail
  refine (within_at _ _ _ _).mono ?_
  rintro r u1 ⟨rfl, rfl⟩
  rw [decide_eq_true hS]
  go_wp2_with fail
  go_ret
  exact ⟨rfl, B0⟩
theorem ahead_ok {w : World} {dg : Nat} {D : Dk.DS} {F : Nat → Prop} (hd : Dk.IsDisk w dg D F) (hnb : D.nb = 64) (E S t : Int) (ht : 0 ≤ t ∧ t ≤ 15) (hE : 1 ≤ E ∧ E ≤ 8388608) (hS : 1 ≤ S ∧ S ≤ 549755813888) :
    Calls Tryz.prog 205 #[.pointer (some ⟨dg, 0, none⟩), .agg lay, .agg #[.int .i64 64, .int .i64 E, .int .i64 S, .int .i64 t]] w fun r w' => r = .returned (.int .i64 0) ∧ Below w.heap.size w w' := by
  have hq := neq41
  have B0 := ((Below.refl w.heap.size w).alloc (Nat.le_refl _) (.cells lay 57)).alloc (by simp) (.cells #[.int .i64 64, .int .i64 E, .int .i64 S, .int .i64 t] 141)
  have l0 := (Dk.Box.new w lay 57).alloc (.cells #[.int .i64 64, .int .i64 E, .int .i64 S, .int .i64 t] 141)
  have l1 : Box ((w.alloc (.cells lay 57)).alloc (.cells #[.int .i64 64, .int .i64 E, .int .i64 S, .int .i64 t] 141)) (w.heap.size + 1) #[.int .i64 64, .int .i64 E, .int .i64 S, .int .i64 t] 141 := Rg.Box.next w _ _ 141
  have c1 : Calls Tryz.prog 88 #[.pointer (some ⟨dg, 0, none⟩)] ((w.alloc (.cells lay 57)).alloc (.cells #[.int .i64 64, .int .i64 E, .int .i64 S, .int .i64 t] 141)) fun e w' => e = .returned (.int .i64 (D.nb : Int)) ∧ ((w.alloc (.cells lay 57)).alloc (.cells #[.int .i64 64, .int .i64 E, .int .i64 S, .int .i64 t] 141)) = w' := by
    obtain ⟨gd, cd, vu, ps, h⟩ := hd
    exact Dk.size_at (h.kept (fun i hi => B0.block i (h.flt i hi)) B0.size)
  rw [hnb] at c1
  have c2 := fun u => La.of_good 64 u (by decide) (by decide)
  rw [lay64] at c2
  have c3 := fun u => right_at 64 E S t u ht hE hS
  clear hd
  unfold lay at *
  go_enter Tryz.func205, Tryz.ntmps205
  go_wp2_with fail
  refine Calls.mono c1 ?_
  rintro r u1 ⟨rfl, rfl⟩
  go_wp2_with fail
  refine Calls.mono (c2 _) ?_
  rintro r u1 ⟨rfl, b1⟩
  have B1 := B0.trans (b1.mono B0.size)
  have l2 := (l0.below b1).alloc (.cells #[.int .i64 64, .int .i64 2, .int .i64 16, .int .i64 18, .int .i64 19, .int .i64 4, .int .i64 23] 57)
  have l3 := (l1.below b1).alloc (.cells #[.int .i64 64, .int .i64 2, .int .i64 16, .int .i64 18, .int .i64 19, .int .i64 4, .int .i64 23] 57)
  have B2 := B1.alloc B1.size (.cells #[.int .i64 64, .int .i64 2, .int .i64 16, .int .i64 18, .int .i64 19, .int .i64 4, .int .i64 23] 57)
  clear b1 c1 c2 l0 l1
  have y0 := l2.cell 0
  have y1 := l2.cell 1
  have y2 := l2.cell 2
  have y3 := l2.cell 3
  have y4 := l2.cell 4
  have y5 := l2.cell 5
  have y6 := l2.cell 6
  have x0 := l3.cell 0
  have x1 := l3.cell 1
  have x2 := l3.cell 2
  have x3 := l3.cell 3
  simp at y0 y1 y2 y3 y4 y5 y6 x0 x1 x2 x3
  go_wp2_with fail
  refine Calls.mono (c3 _) ?_
  rintro r u2 ⟨rfl, b2⟩
  have B3 := B2.trans (b2.mono B2.size)
  go_wp2_with fail
  go_ret
  exact ⟨rfl, B3⟩
end Go.Proofs.YtnldkpckojhbhaaGreat.S

/-
  The law's disk with groups appended, as many as there is room for.
-/
namespace Go.Proofs.YtnldkpckojhbhaaGreat.S
open Go.RowKit
open Go.Proofs.YtnldkpckojhbhaaGreat.Dk (Box)
open Go.Proofs.YtnldkpckojhbhaaGreat.J (JD JTo ics grow owns_kept upd_below pk pk_in pick_eq)

def ImF (F : Nat → Prop) (w : World) (al : Option Addr) (n cl : Nat) (is : List (Int × List UInt8)) : Prop :=
  ∃ qs : List Rc.GG, w.ownsRow 0 89 2 (.slice al n cl) n (Rc.imgC qs) ∧ Rc.GetJ 0 w qs ∧ qs.length = n ∧ qs.map (fun p => (p.b, p.xs)) = is ∧ (∀ k, (Value.slice al n cl).ownBlock = some k → ¬ F k) ∧ ∀ q ∈ qs, ¬ F q.h
section
variable {F F' : Nat → Prop} {w w' : World} {al : Option Addr} {n cl : Nat} {is : List (Int × List UInt8)}
theorem ImF.upd (h : ImF F w al n cl is) (u : Dk.Upd F w w') (hF : ∀ i, F' i → F i ∨ w.heap.size ≤ i) : ImF F' w' al n cl is := by
  obtain ⟨qs, h1, h2, h3, h4, h5, h6⟩ := h
  refine ⟨qs, owns_kept h1 (fun k hk => u.block k (h1.lt k hk).2 (h5 k hk)), ⟨fun p hp => ?_, h2.apart⟩, h3, h4, fun k hk hf => (hF k hf).elim (h5 k hk) (fun h => by have := (h1.lt k hk).2; omega), fun q hq hf => (hF q.h hf).elim (h6 q hq) (fun h => by have := (h2.rows q hq).1.lt; omega)⟩
  obtain ⟨a1, a2⟩ := h2.rows p hp
  exact ⟨a1.same (u.block p.h a1.lt (h6 p hp)), a2⟩
theorem ImF.keep (h : ImF F w al n cl is) (hk : ∀ k, k < w.heap.size → ¬ F k → w'.heap[k]? = w.heap[k]?) : ImF F w' al n cl is := by
  obtain ⟨qs, h1, h2, h3, h4, h5, h6⟩ := h
  refine ⟨qs, owns_kept h1 (fun k hk' => hk k (h1.lt k hk').2 (h5 k hk')), ⟨fun p hp => ?_, h2.apart⟩, h3, h4, h5, h6⟩
  obtain ⟨a1, a2⟩ := h2.rows p hp
  exact ⟨a1.same (hk p.h a1.lt (h6 p hp)), a2⟩
theorem ImF.below (h : ImF F w al n cl is) (b : Below w.heap.size w w') : ImF F w' al n cl is := h.upd (upd_below b) (fun _ h => .inl h)
theorem ImF.kept (h : ImF F w al n cl is) (hk : ∀ k, k < w.heap.size → (∀ cur, ¬ Box w k cur 29) → w'.heap[k]? = w.heap[k]?) : ImF F w' al n cl is := by
  obtain ⟨qs, h1, h2, h3, h4, h5, h6⟩ := h
  refine ⟨qs, owns_kept h1 (fun k hk' => hk k (h1.lt k hk').2 (fun cur hb => ?_)), ⟨fun p hp => ?_, h2.apart⟩, h3, h4, h5, h6⟩
  · obtain ⟨_, cur', hb'⟩ := Rc.owns_block h1 k hk'
    exact hb.ne hb' (by decide) rfl
  · obtain ⟨a1, a2⟩ := h2.rows p hp
    refine ⟨a1.same (hk p.h a1.lt (fun cur hb => ?_)), a2⟩
    obtain ⟨cur', hb', _⟩ := a1
    exact hb.ne hb' (by decide) rfl
end

structure G9 where
  n : Nat
  z : Int
  al : Option Addr
  cl : Nat
structure W9 where
  D : Dk.DS
  U : Nat
  gs : List (Nat × Int)
def n9 (z : Int) : Nat := 1 + (pk z 5).toNat
open Classical in
/-- one more, if there is room -/
def sz9 (gs : List (Nat × Int)) : List Int := gs.map fun q => ((q.1 + 1 : Nat) : Int)
def alC (qs : List G9) : List Value := qs.map fun q => .slice q.al q.n q.cl
structure Sw (w : World) (g dg e t : Nat) (s : W9) (v : Value) (qs : List G9) (u : World) : Prop where
  ex : ∃ F, JD u g dg ⟨2, (e : Int), ((s.gs.length + 1 : Nat) : Int), 0, 16, (t : Int), (s.U : Int), 0, false⟩ (sz9 s.gs) s.D F ∧ (∀ q ∈ qs, ImF (fun k => F k ∨ k < w.heap.size) u q.al q.n q.cl (im9 q.z q.n)) ∧ (∀ k, v.ownBlock = some k → ¬ F k) ∧ (∀ k, F k → w.heap.size ≤ k)
  row : u.ownsRow w.heap.size 29 1 v qs.length (alC qs)
  same : qs.map (fun q => (q.n, q.z)) = s.gs
  bel : Below w.heap.size w u

section
variable {w u u' : World} {g dg e t : Nat} {s : W9} {v : Value} {qs : List G9}
theorem Sw.below (h : Sw w g dg e t s v qs u) (b : Below u.heap.size u u') : Sw w g dg e t s v qs u' := by
  obtain ⟨⟨F, j, im, hv, hF⟩, r, sm, bl⟩ := h
  exact ⟨⟨F, j.below j.flt b b.size, fun q hq => (im q hq).below b, hv, hF⟩, Rc.owns_below r b, sm, bl.trans (b.mono bl.size)⟩
end
end Go.Proofs.YtnldkpckojhbhaaGreat.S

/-
  Groups behind one another in a ring, of which a crash may have left anything: what is told is a beginning of them. No walk here.
-/
namespace Go.Proofs.YtnldkpckojhbhaaGreat.S
open Go.RowKit

def blks (E : Nat) : Nat → List (List (Int × List UInt8)) → List (List UInt8)
  | _, [] => []
  | s, is :: r => Rc.putL E s is ++ blks E (s + 1) r
def rg (D : Dk.DS) (t i : Nat) : List UInt8 := D.stand (2 + (t + i) % 16)
def noMark (E : Nat) (xs : List UInt8) : Prop := ∀ s, s ≤ 549755813888 → xs.take 8 ≠ Rc.mark E s
def Mixd (D : Dk.DS) (t E b : Nat) (L : List (List UInt8)) : Prop :=
  ∀ i, b ≤ i → i < 16 → ∀ x : Fin 8, (∃ h : i - b < L.length, Rc.sec (rg D t i) x.val = Rc.sec L[i - b] x.val) ∨ noMark E (Rc.sec (rg D t i) x.val)

theorem ringB_get (D : Dk.DS) (t b k i : Nat) (h : i < (ringB D t b k).length) : (ringB D t b k)[i] = rg D t (b + i) := by simp [ringB, rg]
theorem ring0 (D : Dk.DS) (t b k : Nat) : (ringB D t b (k + 1))[0]?.getD [] = rg D t b := ringB_head D t b k

section
variable {D : Dk.DS} {t E b s : Nat}
theorem gok_marks (h : GOk D t E b s) (i : Nat) (hi : i < cntAt D t b + 1) (x : Fin 8) : (Rc.sec (rg D t (b + i)) x.val).take 8 = Rc.mark E s := by
  obtain ⟨⟨h1, h2, h3⟩, _, hg⟩ := h
  have h4 := Rc.grp_marks hg i (by rw [ringB_length]; exact hi) x
  rw [ringB_get, ring0] at h4
  unfold rg at h4 ⊢
  rw [h2, h3] at h4
  exact h4
theorem gok_s (h : GOk D t E b s) : s ≤ 549755813888 ∧ E ≤ 8388608 ∧ 1 ≤ s ∧ 1 ≤ E := by
  have h1 := (Rc.okStamp_iff _ _).1 (Rc.grp_ok h.2.2)
  rw [ring0] at h1
  obtain ⟨⟨_, h2, h3⟩, _⟩ := h
  unfold rg at h1
  rw [h2, h3] at h1
  omega
end

theorem blks_cons (E s : Nat) (is : List (Int × List UInt8)) (r : List (List (Int × List UInt8))) : blks E s (is :: r) = Rc.putL E s is ++ blks E (s + 1) r := rfl
theorem putL_length' (E s : Nat) (is : List (Int × List UInt8)) : (Rc.putL E s is).length = is.length + 1 := by simp [Rc.putL]

theorem Mixd.tail {D : Dk.DS} {t E b s : Nat} {is : List (Int × List UInt8)} {r : List (List (Int × List UInt8))} (hm : Mixd D t E b (blks E s (is :: r))) : Mixd D t E (b + (is.length + 1)) (blks E (s + 1) r) := fun i hi h16 x => by
  have hl := putL_length' E s is
  rcases hm i (by omega) h16 x with ⟨h1, h2⟩ | h1
  · left
    have e : i - b - (is.length + 1) = i - (b + (is.length + 1)) := by omega
    have hlen : (blks E s (is :: r)).length = is.length + 1 + (blks E (s + 1) r).length := by rw [blks_cons, List.length_append, hl]
    refine ⟨by omega, ?_⟩
    rw [h2]
    simp only [blks_cons]
    rw [List.getElem_append_right (by omega)]
    simp only [hl, e]
  · exact .inr h1

theorem Run.cnt {D : Dk.DS} {t E : Nat} : ∀ {xs : List Gx} {b s : Nat}, Run D t E b s xs → ∀ x ∈ xs, x.m = (gimgs D t x.b).length ∧ 1 ≤ x.m ∧ x.m ≤ 32
  | x :: r, b, s, ⟨⟨hb, hs, hg, hx⟩, hr⟩, y, hy => by
    rcases List.mem_cons.1 hy with rfl | hy
    · have hm : 1 ≤ cntAt D t b ∧ cntAt D t b ≤ 32 := by
        have h := hg.1.1.2.1.2.1
        simpa [cntAt] using h
      rw [hb, hx]
      exact ⟨by simp [gimgs, Rc.imgsTo], hm⟩
    · exact hr.cnt y hy

end Go.Proofs.YtnldkpckojhbhaaGreat.S

/-
  What the blocks of the law's ring are, behind writes, a flush, a crash. No walk here.
-/
namespace Go.Proofs.YtnldkpckojhbhaaGreat.S
open Go.RowKit

theorem blk_nought (n p : Nat) (h : p * 4096 + 4096 ≤ n) : Dk.blk (Dk.nought n) p = List.replicate 4096 0 := by
  unfold Dk.blk Dk.nought
  rw [List.drop_replicate, List.take_replicate]
  congr 1
  omega
theorem sec_zero (x : Fin 8) : (Rc.sec (List.replicate 4096 0) x.val).take 8 = List.replicate 8 0 := by
  have := x.isLt
  unfold Rc.sec
  rw [List.drop_replicate, List.take_replicate, List.take_replicate]
  congr 1
  omega
theorem Mixd.congr {D D' : Dk.DS} {t E b : Nat} {L : List (List UInt8)} (h : Mixd D t E b L) (he : ∀ i, i < 16 → rg D' t i = rg D t i) : Mixd D' t E b L := fun i hb h16 x => by
  rw [he i h16]
  exact h i hb h16 x
end Go.Proofs.YtnldkpckojhbhaaGreat.S

/-
  maps.Keys, slices.Sorted, slices.Sort: the contracts of the library, at the numbers of this program.
-/
namespace Go.Proofs.YtnldkpckojhbhaaGreat.H
open Go.RowKit Go.Maps Go.Sort Go.Shelf

def keysA_ren : Go.Shelf.Ren := ⟨fun | 7 => 241 | 10 => 274 | n => n, fun | 23 => 265 | 26 => 3 | 3 => 89 | 28 => 239 | 0 => 0 | 27 => 238 | 33 => 42 | 4 => 4 | n => n, fun n => n⟩
theorem keysA : Go.Proofs.SlLaysZI.n7 Tryz.prog keysA_ren :=
  { mixed := by kernel_rfl
    f7 := ⟨Tryz.f241.name, by decide, Tryz.func241.trans (congrArg some (by kernel_rfl))⟩
    f10 := ⟨Tryz.f274.name, by decide, Tryz.func274.trans (congrArg some (by kernel_rfl))⟩
    t0 := by kernel_rfl
    a0 := Tryz.isAgg0
    z0 := Tryz.sizeOf0
    v0 := Tryz.zeroValue0
    t4 := by kernel_rfl
    a4 := Tryz.isAgg4
    z4 := Tryz.sizeOf4
    v4 := Tryz.zeroValue4
    t23 := by kernel_rfl
    a23 := Tryz.isAgg265
    z23 := Tryz.sizeOf265
    v23 := Tryz.zeroValue265
    t26 := by kernel_rfl
    a26 := Tryz.isAgg3
    z26 := Tryz.sizeOf3
    v26 := Tryz.zeroValue3
    t27 := by kernel_rfl
    a27 := Tryz.isAgg238
    z27 := Tryz.sizeOf238
    v27 := Tryz.zeroValue238
    t28 := by kernel_rfl
    a28 := Tryz.isAgg239
    z28 := Tryz.sizeOf239
    v28 := Tryz.zeroValue239
    t33 := by kernel_rfl
    a33 := Tryz.isAgg42
    z33 := Tryz.sizeOf42
    v33 := Tryz.zeroValue42 }

def sortedA_ren : Go.Shelf.Ren := ⟨fun | 6 => 187 | 8 => 229 | 9 => 180 | 11 => 266 | 13 => 219 | 12 => 218 | 23 => 257 | 24 => 258 | 14 => 248 | 15 => 249 | 16 => 250 | 17 => 251 | 18 => 252 | 19 => 253 | 20 => 254 | 21 => 255 | 22 => 256 | 25 => 278 | 26 => 279 | 27 => 280 | 28 => 281 | 29 => 282 | 30 => 283 | 31 => 293 | n => n, fun | 26 => 3 | 28 => 239 | 24 => 31 | 0 => 0 | 3 => 3 | 37 => 150 | 48 => 216 | 50 => 149 | 4 => 4 | 40 => 297 | 39 => 296 | 45 => 302 | 5 => 5 | 9 => 9 | 51 => 317 | 55 => 321 | 57 => 328 | 58 => 241 | 33 => 42 | n => n, fun n => n⟩
theorem sortedA : Go.Proofs.SlLaysZI.n6 Tryz.prog sortedA_ren :=
  { mixed := by kernel_rfl
    f6 := ⟨Tryz.f187.name, by decide, Tryz.func187.trans (congrArg some (by kernel_rfl))⟩
    f8 := ⟨Tryz.f229.name, by decide, Tryz.func229.trans (congrArg some (by kernel_rfl))⟩
    f11 := ⟨Tryz.f266.name, by decide, Tryz.func266.trans (congrArg some (by kernel_rfl))⟩
    t0 := by kernel_rfl
    a0 := Tryz.isAgg0
    z0 := Tryz.sizeOf0
    v0 := Tryz.zeroValue0
    t24 := by kernel_rfl
    a24 := Tryz.isAgg31
    z24 := Tryz.sizeOf31
    v24 := Tryz.zeroValue31
    t26 := by kernel_rfl
    a26 := Tryz.isAgg3
    z26 := Tryz.sizeOf3
    v26 := Tryz.zeroValue3
    t28 := by kernel_rfl
    a28 := Tryz.isAgg239
    z28 := Tryz.sizeOf239
    v28 := Tryz.zeroValue239
    i26 := by kernel_rfl }

def sortA_ren : Go.Shelf.Ren := ⟨fun | 5 => 180 | 8 => 219 | 7 => 218 | 19 => 257 | 20 => 258 | 10 => 248 | 11 => 249 | 12 => 250 | 13 => 251 | 14 => 252 | 15 => 253 | 16 => 254 | 17 => 255 | 18 => 256 | 30 => 278 | 31 => 279 | 32 => 280 | 33 => 281 | 34 => 282 | 35 => 283 | 40 => 293 | n => n, fun | 23 => 31 | 25 => 3 | 3 => 3 | 32 => 150 | 22 => 31 | 0 => 0 | 44 => 216 | 46 => 149 | 4 => 4 | 36 => 297 | 35 => 296 | 41 => 302 | 5 => 5 | 9 => 9 | 53 => 317 | 57 => 321 | 63 => 328 | 64 => 241 | n => n, fun n => n⟩
theorem sortA : Go.Proofs.SlLaysM.n5 Tryz.prog sortA_ren :=
  { mixed := by kernel_rfl
    f5 := ⟨Tryz.f180.name, by decide, Tryz.func180.trans (congrArg some (by kernel_rfl))⟩
    f7 := ⟨Tryz.f218.name, by decide, Tryz.func218.trans (congrArg some (by kernel_rfl))⟩
    f8 := Tryz.func219.trans (congrArg some (by kernel_rfl))
    f10 := ⟨Tryz.f248.name, by decide, Tryz.func248.trans (congrArg some (by kernel_rfl))⟩
    f11 := ⟨Tryz.f249.name, by decide, Tryz.func249.trans (congrArg some (by kernel_rfl))⟩
    f12 := ⟨Tryz.f250.name, by decide, Tryz.func250.trans (congrArg some (by kernel_rfl))⟩
    f13 := ⟨Tryz.f251.name, by decide, Tryz.func251.trans (congrArg some (by kernel_rfl))⟩
    f14 := ⟨Tryz.f252.name, by decide, Tryz.func252.trans (congrArg some (by kernel_rfl))⟩
    f15 := ⟨Tryz.f253.name, by decide, Tryz.func253.trans (congrArg some (by kernel_rfl))⟩
    f16 := ⟨Tryz.f254.name, by decide, Tryz.func254.trans (congrArg some (by kernel_rfl))⟩
    f17 := ⟨Tryz.f255.name, by decide, Tryz.func255.trans (congrArg some (by kernel_rfl))⟩
    f18 := ⟨Tryz.f256.name, by decide, Tryz.func256.trans (congrArg some (by kernel_rfl))⟩
    f19 := Tryz.func257.trans (congrArg some (by kernel_rfl))
    f20 := Tryz.func258.trans (congrArg some (by kernel_rfl))
    f30 := ⟨Tryz.f278.name, by decide, Tryz.func278.trans (congrArg some (by kernel_rfl))⟩
    f31 := Tryz.func279.trans (congrArg some (by kernel_rfl))
    f32 := Tryz.func280.trans (congrArg some (by kernel_rfl))
    f33 := ⟨Tryz.f281.name, by decide, Tryz.func281.trans (congrArg some (by kernel_rfl))⟩
    f34 := ⟨Tryz.f282.name, by decide, Tryz.func282.trans (congrArg some (by kernel_rfl))⟩
    f35 := ⟨Tryz.f283.name, by decide, Tryz.func283.trans (congrArg some (by kernel_rfl))⟩
    f40 := ⟨Tryz.f293.name, by decide, Tryz.func293.trans (congrArg some (by kernel_rfl))⟩
    t0 := by kernel_rfl
    a0 := Tryz.isAgg0
    z0 := Tryz.sizeOf0
    v0 := Tryz.zeroValue0
    t3 := by kernel_rfl
    a3 := Tryz.isAgg3
    z3 := Tryz.sizeOf3
    v3 := Tryz.zeroValue3
    t4 := by kernel_rfl
    a4 := Tryz.isAgg4
    z4 := Tryz.sizeOf4
    v4 := Tryz.zeroValue4
    t5 := by kernel_rfl
    a5 := Tryz.isAgg5
    z5 := Tryz.sizeOf5
    v5 := Tryz.zeroValue5
    t9 := by kernel_rfl
    a9 := Tryz.isAgg9
    z9 := Tryz.sizeOf9
    v9 := Tryz.zeroValue9
    t22 := by kernel_rfl
    a22 := Tryz.isAgg31
    z22 := Tryz.sizeOf31
    v22 := Tryz.zeroValue31
    t23 := by kernel_rfl
    a23 := Tryz.isAgg31
    z23 := Tryz.sizeOf31
    v23 := Tryz.zeroValue31
    t25 := by kernel_rfl
    a25 := Tryz.isAgg3
    z25 := Tryz.sizeOf3
    v25 := Tryz.zeroValue3
    t32 := by kernel_rfl
    a32 := Tryz.isAgg150
    z32 := Tryz.sizeOf150
    v32 := Tryz.zeroValue150
    t35 := by kernel_rfl
    a35 := Tryz.isAgg296
    z35 := Tryz.sizeOf296
    v35 := Tryz.zeroValue296
    t36 := by kernel_rfl
    a36 := Tryz.isAgg297
    z36 := Tryz.sizeOf297
    v36 := Tryz.zeroValue297
    t41 := by kernel_rfl
    a41 := Tryz.isAgg302
    z41 := Tryz.sizeOf302
    v41 := Tryz.zeroValue302
    t44 := by kernel_rfl
    a44 := Tryz.isAgg216
    z44 := Tryz.sizeOf216
    v44 := Tryz.zeroValue216
    t46 := by kernel_rfl
    a46 := Tryz.isAgg149
    z46 := Tryz.sizeOf149
    v46 := Tryz.zeroValue149
    t53 := by kernel_rfl
    a53 := Tryz.isAgg317
    z53 := Tryz.sizeOf317
    v53 := Tryz.zeroValue317
    t57 := by kernel_rfl
    a57 := Tryz.isAgg321
    z57 := Tryz.sizeOf321
    v57 := Tryz.zeroValue321
    t63 := by kernel_rfl
    a63 := Tryz.isAgg328
    z63 := Tryz.sizeOf328
    v63 := Tryz.zeroValue328
    t64 := by kernel_rfl
    a64 := Tryz.isAgg241
    z64 := Tryz.sizeOf241
    v64 := Tryz.zeroValue241 }

theorem sortsA (m : Nat) : AnyZI.SortsIn Tryz.prog sortedA_ren Fence.wide m :=
  ⟨fun blk off cap ss W hH hblk hsz => callsIn_wide.2 (AnyM.slices_Sort_int sortA blk off cap ss W hH hblk hsz),
   fun p cap W => callsIn_wide.2 (AnyM.slices_Sort_int_none sortA p cap W)⟩
end Go.Proofs.YtnldkpckojhbhaaGreat.H

/-
  A map of numbers, as a function: made, put, looked up; its keys.
-/
namespace Go.Proofs.YtnldkpckojhbhaaGreat.H
open Go.RowKit Go.Maps

def rV (v : Value) : Option (DataW Value × List MemPlace) := some (.held v, [])
def MapI (w : World) (b n : Nat) (m : Int → Option Value) : Prop :=
  ∃ D : DataW Value, w.ownsMap Tryz.prog 3 rV b n D ∧ (∀ k, (m k).isSome = true → (Lit.int .i64 k).wf = true) ∧ ∀ k, (Lit.int .i64 k).wf = true → has D (.int .i64 k) = (m k).isSome ∧ ∀ z, D.atKey (.int .i64 k) z = ((m k).map DataW.held).getD z
theorem keyed3 : Keyed Tryz.prog 3 := int_keyed Tryz.underlying3
theorem key3 {k : Int} (h : (Lit.int .i64 k).wf = true) : keyOf Tryz.prog 3 (.int .i64 k) = some (.int .i64 k) := by
  simp [keyOf, mapKey, Tryz.underlying3, h]
theorem MapI.made (w : World) : MapI (w.alloc (.map #[] 0)) w.heap.size 0 (fun _ => none) :=
  ⟨_, World.ownsMap_made w Tryz.prog 3 rV, fun k h => by simp at h, fun k _ => ⟨rfl, fun z => rfl⟩⟩
theorem MapI.lt {w : World} {b n : Nat} {m : Int → Option Value} (h : MapI w b n m) : b < w.heap.size := by obtain ⟨D, h, _⟩ := h; exact h.lt
theorem MapI.below {w w' : World} {b n : Nat} {m : Int → Option Value} (h : MapI w b n m) (hb : Below w.heap.size w w') : MapI w' b n m := by
  have hl := h.lt
  obtain ⟨D, ⟨es, cl, h1, h2⟩, h3⟩ := h
  exact ⟨D, ⟨es, cl, (hb.block b hl).trans h1, h2⟩, h3⟩
theorem MapI.update {w : World} {b n : Nat} {m : Int → Option Value} (h : MapI w b n m) (hn : n < maxLen) (k : Int) (hk : (Lit.int .i64 k).wf = true) (v : Value) :
    ∃ w', (Instr.mapUpdate 265 (.map (some b)) (.int .i64 k) v).run Tryz.prog w = .ok () w' ∧ MapI w' b (n + 1) (fun j => if j = k then some v else m j) ∧ w.grownBy w' (some b) := by
  obtain ⟨D, h1, h2, h3⟩ := h
  obtain ⟨w', r, o, g⟩ := h1.update keyed3 Tryz.underlying265 hn (key3 hk) (show rV v = some (.held v, []) from rfl)
  refine ⟨w', r, ⟨_, o, fun j hj => ?_, fun j hj => ?_⟩, g⟩
  · dsimp only at hj
    by_cases e : j = k
    · rw [e]; exact hk
    · rw [if_neg e] at hj; exact h2 j hj
  · dsimp only
    by_cases e : j = k
    · subst e
      rw [if_pos rfl]
      exact ⟨has_put_same h1.isMap (show WideAt.IsKeyLit (.int .i64 j) from trivial) _, fun z => atKey_put_same h1.isMap (show WideAt.IsKeyLit (.int .i64 j) from trivial) _ z⟩
    · have ne : Lit.int .i64 j ≠ Lit.int .i64 k := fun h => e (by injection h)
      rw [if_neg e, has_put_other ne]
      exact ⟨(h3 j hj).1, fun z => (atKey_put_other ne _ z).trans ((h3 j hj).2 z)⟩
theorem MapI.look {w : World} {b n : Nat} {m : Int → Option Value} (h : MapI w b n m) (k : Int) (v : Value) (hv : m k = some v) :
    (Instr.lookup 265 (.map (some b)) (.int .i64 k) false).run Tryz.prog w = .ok v w := by
  obtain ⟨D, h1, h2, h3⟩ := h
  have hk := h2 k (by rw [hv]; rfl)
  obtain ⟨v', ps, r, e⟩ := h1.lookup keyed3 Tryz.underlying265 (Tryz.zeroValue89 w) (show rV _ = some (.held _, []) from rfl) (key3 hk)
  rw [(h3 k hk).2, hv] at e
  simp [rV] at e
  rw [r, e.1]
theorem MapI.keys {w : World} {b n : Nat} {m : Int → Option Value} (h : MapI w b n m) :
    ∃ D : DataW Value, w.ownsMap Tryz.prog 3 rV b n D ∧ (intKeys D).Nodup ∧ ∀ x, x ∈ intKeys D ↔ (m x).isSome = true := by
  obtain ⟨D, h1, h2, h3⟩ := h
  have ht := h1.tidy keyed3
  have hk : ∀ es, D = .map es → ∀ p ∈ es, ∃ x, p.1 = .int .i64 x ∧ (Lit.int .i64 x).wf = true := by
    obtain ⟨es0, cl, _, F, _, e⟩ := h1
    intro es he p hp
    rw [e] at he
    injection he with he
    subst he
    rw [mem_sorted, List.mem_map] at hp
    obtain ⟨x, hx, rfl⟩ := hp
    obtain ⟨y, hy⟩ := F.reads x hx
    obtain ⟨z, _, e2, e3⟩ := keyOf_i64 Tryz.underlying3 (Go.WideElems.rd_key hy)
    refine ⟨z, ?_, e3⟩
    unfold Go.WideElems.rg
    rw [hy]
    exact e2
  obtain ⟨es, rfl, hp⟩ := ht
  have hk := hk es rfl
  refine ⟨_, h1, ?_, fun x => ?_⟩
  · show (es.map fun p => Go.intOf p.1).Nodup
    refine List.pairwise_map.2 (hp.imp_of_mem fun {p q} hp' hq' hne e => hne ?_)
    obtain ⟨a, ha, _⟩ := hk p hp'
    obtain ⟨b, hb, _⟩ := hk q hq'
    rw [ha, hb] at e ⊢
    exact congrArg _ e
  · show x ∈ (es.map fun p => Go.intOf p.1) ↔ _
    rw [List.mem_map]
    constructor
    · rintro ⟨p, hp', rfl⟩
      obtain ⟨a, ha, hw⟩ := hk p hp'
      rw [ha]
      show (m a).isSome = true
      rw [← (h3 a hw).1, has_eq, List.any_eq_true]
      exact ⟨p, hp', by rw [ha]; simp [Lit.sameKey]⟩
    · intro hx
      have hw := h2 x hx
      rw [← (h3 x hw).1, has_eq, List.any_eq_true] at hx
      obtain ⟨p, hp', hs⟩ := hx
      obtain ⟨a, ha, _⟩ := hk p hp'
      rw [ha] at hs
      exact ⟨p, hp', by rw [ha]; simpa [Lit.sameKey, Go.intOf] using hs⟩
end Go.Proofs.YtnldkpckojhbhaaGreat.H

/-
  The law's layout64 and made.
-/
namespace Go.Proofs.YtnldkpckojhbhaaGreat.H
open Go.RowKit
open Go.Proofs.YtnldkpckojhbhaaGreat.Rc (madeL)

def lay : Array Value := #[.int .i64 64, .int .i64 2, .int .i64 16, .int .i64 18, .int .i64 19, .int .i64 4, .int .i64 23]
theorem lay64 : La.layA 64 = lay := by
  have hL : La.lgs 64 = 16 := by decide
  simp [La.layA, hL, lay]
end Go.Proofs.YtnldkpckojhbhaaGreat.H

/-
  Home: the last image of each block stands in a map; then rising.
-/
namespace Go.Proofs.YtnldkpckojhbhaaGreat.H
open Go.RowKit Go.Maps
open Go.Proofs.YtnldkpckojhbhaaGreat.Su (wi)
open Go.Proofs.YtnldkpckojhbhaaGreat.Dk (Box Upd)

abbrev Im := Int × Option Addr × Nat × Nat
def imV (q : Im) : Value := .agg #[.int .i64 q.1, .slice q.2.1 q.2.2.1 q.2.2.2]
def mOf (L : List Im) : Int → Option Value := L.foldl (fun m q => fun j => if j = q.1 then some (imV q) else m j) (fun _ => none)
theorem mOf_snoc (L : List Im) (q : Im) : mOf (L ++ [q]) = fun j => if j = q.1 then some (imV q) else mOf L j := by simp [mOf, List.foldl_append]
theorem mOf_some' : ∀ (L : List Im) (m0 : Int → Option Value) (k : Int) (v : Value), (L.foldl (fun m q => fun j => if j = q.1 then some (imV q) else m j) m0) k = some v → (∃ q ∈ L, q.1 = k ∧ v = imV q) ∨ m0 k = some v
  | [], m0, k, v, h => .inr h
  | q :: r, m0, k, v, h => by
    rw [List.foldl_cons] at h
    rcases mOf_some' r _ k v h with ⟨p, hp, h1, h2⟩ | h
    · exact .inl ⟨p, List.mem_cons_of_mem _ hp, h1, h2⟩
    · by_cases e : k = q.1
      · rw [if_pos e] at h
        injection h with h
        exact .inl ⟨q, List.mem_cons_self .., e.symm, h.symm⟩
      · rw [if_neg e] at h
        exact .inr h
theorem mOf_some (L : List Im) (k : Int) (v : Value) (h : mOf L k = some v) : ∃ q ∈ L, q.1 = k ∧ v = imV q := by
  rcases mOf_some' L _ k v h with h | h
  · exact h
  · cases h
theorem nodup_le : ∀ (l r : List Int), l.Nodup → (∀ x ∈ l, x ∈ r) → l.length ≤ r.length
  | [], r, _, _ => Nat.zero_le _
  | x :: t, r, hn, hs => by
    rw [List.nodup_cons] at hn
    have h1 := hs x (List.mem_cons_self ..)
    have := nodup_le t (r.erase x) hn.2 (fun y hy => (List.mem_erase_of_ne (fun e => hn.1 (by rw [← e]; exact hy))).2 (hs y (List.mem_cons_of_mem _ hy)))
    rw [List.length_erase_of_mem h1] at this
    have h2 := List.length_pos_of_mem h1
    rw [List.length_cons]
    omega

theorem MapI.tight {w : World} {b n : Nat} {m : Int → Option Value} (h : MapI w b n m) (hk : ∀ k, (m k).isSome = true → 0 ≤ k ∧ k < 512) : MapI w b 512 m := by
  obtain ⟨D', h1, hnd, hmem⟩ := h.keys
  obtain ⟨D, ⟨es, cl, e1, e2, e3, e4⟩, h3⟩ := h
  obtain ⟨es', cl', f1, f2, f3, f4⟩ := h1
  rw [e1] at f1
  injection f1 with f1
  injection f1 with f1 f1'
  subst f1
  have hlen : (intKeys D').length = es.size := by
    rw [f4]
    simp [intKeys, length_sorted]
  have hle : (intKeys D').length ≤ 512 := by
    have hsub : ∀ x ∈ intKeys D', x ∈ (List.range 512).map (fun i : Nat => (i : Int)) := fun x hx => by
      obtain ⟨h0, h5⟩ := hk x ((hmem x).1 hx)
      exact List.mem_map.2 ⟨x.toNat, by simp; omega, by omega⟩
    have h2 := nodup_le _ _ hnd hsub
    simpa using h2
  exact ⟨D, ⟨es, cl, e1, e2, by omega, e4⟩, h3⟩

structure Gr where
  e : Int
  q : Int
  a : Option Addr
  c : Nat
  is : List Im
def CellsG (w : World) (a : Option Addr) (gs : List Gr) : Prop :=
  0 < gs.length → ∃ b o, a = some ⟨b, o, none⟩ ∧ ∀ j (h : j < gs.length), w.cell? ⟨b, o + j * 3, none⟩ = some (.int .i64 gs[j].e) ∧ w.cell? ⟨b, o + j * 3 + 1, none⟩ = some (.int .i64 gs[j].q) ∧ w.cell? ⟨b, o + j * 3 + 2, none⟩ = some (.slice gs[j].a gs[j].is.length gs[j].c) ∧ CellsI w gs[j].a gs[j].is ∧ gs[j].is.length ≤ 1000000000000
def allIs (gs : List Gr) : List Im := gs.flatMap (·.is)
theorem allIs_take {gs : List Gr} {k : Nat} (h : k < gs.length) : allIs (gs.take (k + 1)) = allIs (gs.take k) ++ gs[k].is := by
  unfold allIs
  rw [List.take_succ_eq_append_getElem h, List.flatMap_append]
  simp
def rightIm (lo hi : Int) (q : Im) : Bool := wi q.1 lo hi
theorem keysIn {lo hi : Int} {L : List Im} (h : L.all (rightIm lo hi) = true) (h0 : 0 ≤ lo) (h1 : hi < 512) : ∀ k, (mOf L k).isSome = true → 0 ≤ k ∧ k < 512 := fun k hk => by
  obtain ⟨v, hv⟩ := Option.isSome_iff_exists.1 hk
  obtain ⟨q, hq, rfl, _⟩ := mOf_some L k v hv
  have := List.all_eq_true.1 h q hq
  simp [rightIm, wi] at this
  omega

structure St (w : World) (gl gm : Nat) (LA : Array Value) (L : List Im) (lo hi : Int) (u : World) : Prop where
  map : MapI u gm 512 (mOf L)
  all : L.all (rightIm lo hi) = true
  box : Box u gl LA 57
  below : Below w.heap.size w u
theorem St.alloc {w u : World} {gl gm : Nat} {LA : Array Value} {L : List Im} {lo hi : Int} (h : St w gl gm LA L lo hi u) (o : Obj) : St w gl gm LA L lo hi (u.alloc o) :=
  ⟨h.map.below ((Below.refl _ u).alloc (Nat.le_refl _) o), h.all, h.box.alloc o, h.below.alloc h.below.size o⟩
theorem St.put {w u : World} {gl gm : Nat} {LA : Array Value} {L : List Im} {lo hi : Int} (h : St w gl gm LA L lo hi u) (hm : w.heap.size ≤ gm) (hne : gl ≠ gm) (h0 : 0 ≤ lo) (h1 : hi < 512) (q : Im) (hq : rightIm lo hi q = true) :
    ∃ u', (Instr.mapUpdate 265 (.map (some gm)) (.int .i64 q.1) (imV q)).run Tryz.prog u = .ok () u' ∧ St w gl gm LA (L ++ [q]) lo hi u' ∧ u.grownBy u' (some gm) := by
  have hw : (Lit.int .i64 q.1).wf = true := by
    simp [rightIm, wi] at hq
    simp [Lit.wf, IntKind.min, IntKind.max, IntKind.bits, IntKind.signed]
    omega
  obtain ⟨u', r, m, g⟩ := h.map.update (by unfold maxLen; omega) q.1 hw (imV q)
  have ha : (L ++ [q]).all (rightIm lo hi) = true := by rw [List.all_append, h.all]; simpa using hq
  rw [← mOf_snoc] at m
  exact ⟨u', r, ⟨m.tight (keysIn ha h0 h1), ha, (g.block gl h.box.lt (fun e => by injection e with e; exact hne e)).trans h.box, h.below.grown g h.below.size (fun k e => by cases e; exact hm)⟩, g⟩

theorem neq7 (u : World) (a b c d e f g a' b' c' d' e' f' g' : Int) : (binOp .neq 57 (.agg #[.int .i64 a, .int .i64 b, .int .i64 c, .int .i64 d, .int .i64 e, .int .i64 f, .int .i64 g]) (.agg #[.int .i64 a', .int .i64 b', .int .i64 c', .int .i64 d', .int .i64 e', .int .i64 f', .int .i64 g'])).run Tryz.prog u = .ok (.bool (!La.same7 a b c d e f g a' b' c' d' e' f' g')) u := by
  have h := La.eq23 u a b c d e f g a' b' c' d' e' f' g'
  simp only [binOp]
  simp [Op.equal, Op.maxDepth, h]

set_option maxRecDepth 100000 in
set_option maxHeartbeats 4000000 in
theorem home_in (w : World) (nb : Nat) (l1 l2 l3 l4 l5 l6 : Int) (ga : Option Addr) (gn gc : Nat) (gs : List Gr) (Q : Value → World → Prop)
    (hL : La.layA nb = #[.int .i64 nb, .int .i64 l1, .int .i64 l2, .int .i64 l3, .int .i64 l4, .int .i64 l5, .int .i64 l6])
    (h64 : 64 ≤ nb) (h512 : nb ≤ 512) (h3 : 0 ≤ l3) (hgn : gs.length = gn) (hgm : gn ≤ 1000000) (hG : CellsG w ga gs)
    (cR : (allIs gs).all (rightIm l3 (nb - 1)) = true → ∀ u gm, MapI u gm 512 (mOf (allIs gs)) → Below w.heap.size w u → Calls Tryz.prog 208 #[.map (some gm)] u fun r w' => ∃ v, r = .returned v ∧ Q v w' ∧ Below w.heap.size u w') :
    Calls Tryz.prog 161 #[.agg #[.int .i64 nb, .int .i64 l1, .int .i64 l2, .int .i64 l3, .int .i64 l4, .int .i64 l5, .int .i64 l6], .slice ga gn gc] w fun r w' =>
      ((allIs gs).all (rightIm l3 (nb - 1)) = true → ∃ v, r = .returned (.tuple #[v, .int .i64 0]) ∧ Q v w') ∧ ((allIs gs).all (rightIm l3 (nb - 1)) = false → r = .returned (.tuple #[.slice none 0 0, .int .i64 90])) ∧ Below w.heap.size w w' := by
  have al := (Below.refl w.heap.size w).alloc (Nat.le_refl _) (.cells #[.int .i64 nb, .int .i64 l1, .int .i64 l2, .int .i64 l3, .int .i64 l4, .int .i64 l5, .int .i64 l6] 57)
  have x := Box.new w #[.int .i64 nb, .int .i64 l1, .int .i64 l2, .int .i64 l3, .int .i64 l4, .int .i64 l5, .int .i64 l6] 57
  have c0 := x.cell 0
  simp only [List.getElem?_toArray, List.getElem?_cons_zero] at c0
  have cO := La.of_good nb (w.alloc (.cells #[.int .i64 nb, .int .i64 l1, .int .i64 l2, .int .i64 l3, .int .i64 l4, .int .i64 l5, .int .i64 l6] 57)) h64 h512
  rw [hL] at cO
  have HG : Hid (CellsG w ga gs) := hG
  have HN : Hid (gs.length = gn) := hgn
  have HR : Hid ((allIs gs).all (rightIm l3 (nb - 1)) = true → ∀ u gm, MapI u gm 512 (mOf (allIs gs)) → Below w.heap.size w u → Calls Tryz.prog 208 #[.map (some gm)] u fun r w' => ∃ v, r = .returned v ∧ Q v w' ∧ Below w.heap.size u w') := cR
  have H3 : Hid (0 ≤ l3 ∧ (nb : Int) - 1 < 512) := ⟨h3, by omega⟩
  have hq : ∀ u, (binOp .neq 57 (.agg #[.int .i64 nb, .int .i64 l1, .int .i64 l2, .int .i64 l3, .int .i64 l4, .int .i64 l5, .int .i64 l6]) (.agg #[.int .i64 nb, .int .i64 l1, .int .i64 l2, .int .i64 l3, .int .i64 l4, .int .i64 l5, .int .i64 l6])).run Tryz.prog u = .ok (.bool false) u := fun u => by
    rw [neq7]; simp [La.same7]
  have wr1 : IntKind.i64.wrap ((nb : Int) - 1) = nb - 1 := by rw [IntKind.wrap_i64]; omega
  have hmk := @run_makeMap Tryz.prog
  clear hG cR h3 hgn hL
  go_enter Tryz.func161, Tryz.ntmps161
  go_wp2_with fail
  refine Calls.mono cO ?_
  rintro r u1 ⟨rfl, b1⟩
  have B1 := al.trans (b1.mono al.size)
  have x1 := (x.below b1).alloc (.cells #[.int .i64 nb, .int .i64 l1, .int .i64 l2, .int .i64 l3, .int .i64 l4, .int .i64 l5, .int .i64 l6] 57)
  have y1 := Box.new u1 #[.int .i64 nb, .int .i64 l1, .int .i64 l2, .int .i64 l3, .int .i64 l4, .int .i64 l5, .int .i64 l6] 57
  have B2 := B1.alloc B1.size (.cells #[.int .i64 nb, .int .i64 l1, .int .i64 l2, .int .i64 l3, .int .i64 l4, .int .i64 l5, .int .i64 l6] 57)
  have zz : w.heap.size < u1.heap.size := Nat.lt_of_lt_of_le (by simp) b1.size
  have c0 := x1.cell 0
  have c1 := x1.cell 1
  have c2 := x1.cell 2
  have c3 := x1.cell 3
  have c4 := x1.cell 4
  have c5 := x1.cell 5
  have c6 := x1.cell 6
  have d0 := y1.cell 0
  have d1 := y1.cell 1
  have d2 := y1.cell 2
  have d3 := y1.cell 3
  have d4 := y1.cell 4
  have d5 := y1.cell 5
  have d6 := y1.cell 6
  simp only [List.getElem?_toArray, List.getElem?_cons_zero, List.getElem?_cons_succ] at c0 c1 c2 c3 c4 c5 c6 d0 d1 d2 d3 d4 d5 d6
  have S0 : St w w.heap.size (u1.heap.size + 1) #[.int .i64 nb, .int .i64 l1, .int .i64 l2, .int .i64 l3, .int .i64 l4, .int .i64 l5, .int .i64 l6] [] l3 (nb - 1) ((u1.alloc (.cells #[.int .i64 nb, .int .i64 l1, .int .i64 l2, .int .i64 l3, .int .i64 l4, .int .i64 l5, .int .i64 l6] 57)).alloc (.map #[] 0)) := by
    have m := MapI.made (u1.alloc (.cells #[.int .i64 nb, .int .i64 l1, .int .i64 l2, .int .i64 l3, .int .i64 l4, .int .i64 l5, .int .i64 l6] 57))
    rw [show (u1.alloc (.cells #[.int .i64 nb, .int .i64 l1, .int .i64 l2, .int .i64 l3, .int .i64 l4, .int .i64 l5, .int .i64 l6] 57)).heap.size = u1.heap.size + 1 by simp] at m
    exact ⟨m.tight (fun k h => by simp at h), rfl, x1.alloc _, B2.alloc B2.size _⟩
  have HS0 : Hid (St w w.heap.size (u1.heap.size + 1) #[.int .i64 nb, .int .i64 l1, .int .i64 l2, .int .i64 l3, .int .i64 l4, .int .i64 l5, .int .i64 l6] [] l3 (nb - 1) ((u1.alloc (.cells #[.int .i64 nb, .int .i64 l1, .int .i64 l2, .int .i64 l3, .int .i64 l4, .int .i64 l5, .int .i64 l6] 57)).alloc (.map #[] 0))) := S0
  clear cO b1 x al x1 y1 B1 B2 S0
  go_wp2_with fail
  clear c0 c1 c2 c3 c4 c5 c6 d0 d1 d2 d3 d4 d5 d6
  obtain ⟨LA, hLA⟩ : ∃ LA : Array Value, LA = #[.int .i64 nb, .int .i64 l1, .int .i64 l2, .int .i64 l3, .int .i64 l4, .int .i64 l5, .int .i64 l6] := ⟨_, rfl⟩
  have HLA : Hid (LA = #[.int .i64 nb, .int .i64 l1, .int .i64 l2, .int .i64 l3, .int .i64 l4, .int .i64 l5, .int .i64 l6]) := hLA
  rw [← hLA] at HS0
  clear hLA
  have HZ : Hid (w.heap.size < u1.heap.size) := zz
  clear zz
  go_loopw [29] (fun i u => ∃ k : Nat, k ≤ gn ∧ i = .int .i64 (k : Int) ∧ St w w.heap.size (u1.heap.size + 1) LA (allIs (gs.take k)) l3 (nb - 1) u) (fun i _ => gn - (intOf i).toNat)
  case atStart => exact ⟨0, Nat.zero_le _, rfl, by rw [HLA.out] at HS0 ⊢; exact HS0.out⟩
  case round =>
    obtain ⟨k, hk, rfl, hS⟩ := hrel
    have HS : Hid (St w w.heap.size (u1.heap.size + 1) LA (allIs (gs.take k)) l3 (nb - 1) wr) := hS
    have B := hS.below
    clear hS HS0
    by_cases hlt : k < gn
    · have hki : (k : Int) < (gn : Int) := by omega
      have hkl : k < gs.length := by rw [HN.out]; exact hlt
      obtain ⟨b, o, rfl, hcc⟩ := HG.out (by omega)
      obtain ⟨g0, g1, g2, hci, hil⟩ := hcc k hkl
      have hnext : Hid (allIs (gs.take (k + 1)) = allIs (gs.take k) ++ gs[k].is) := allIs_take hkl
      have hmem : Hid (∀ q ∈ gs[k].is, q ∈ allIs gs) := fun q hq => List.mem_flatMap.2 ⟨gs[k], List.getElem_mem hkl, hq⟩
      generalize (gs[k]'hkl) = gr at g0 g1 g2 hci hil hnext hmem
      obtain ⟨ge, gq, ia, ic, is⟩ := gr
      dsimp only at g0 g1 g2 hci hil hnext hmem
      obtain ⟨n, hn⟩ : ∃ n, n = is.length := ⟨_, rfl⟩
      have HNi : Hid (n = is.length) := hn
      rw [← hn] at g2 hil
      clear hn
      have lb := block_lt_of_cell g0
      have e0 := (B.cell (p := ⟨b, o + k * 3, none⟩) lb).trans g0
      have e1 := (B.cell (p := ⟨b, o + k * 3 + 1, none⟩) lb).trans g1
      have e2 := (B.cell (p := ⟨b, o + k * 3 + 2, none⟩) lb).trans g2
      have HCI : Hid (CellsI w ia is) := hci
      have bx := Box.new wr #[.int .i64 ge, .int .i64 gq, .slice ia n ic] 203
      have y2 := bx.cell 2
      simp only [List.getElem?_toArray, List.getElem?_cons_zero, List.getElem?_cons_succ] at y2
      have HS1 : Hid (St w w.heap.size (u1.heap.size + 1) LA (allIs (gs.take k)) l3 (nb - 1) (wr.alloc (.cells #[.int .i64 ge, .int .i64 gq, .slice ia n ic] 203))) := HS.out.alloc _
      clear g0 g1 g2 hcc hci lb bx B
      go_wp2_with fail
      clear e0 e1 e2 y2
      go_loopw [36] (fun i u => ∃ j : Nat, j ≤ n ∧ i = .int .i64 (j : Int) ∧ St w w.heap.size (u1.heap.size + 1) LA (allIs (gs.take k) ++ is.take j) l3 (nb - 1) u) (fun i _ => n - (intOf i).toNat)
      case atStart => exact ⟨0, Nat.zero_le _, rfl, by rw [List.take_zero, List.append_nil]; exact HS1.out⟩
      case round =>
        obtain ⟨j, hj, rfl, hS⟩ := hrel
        have HT : Hid (St w w.heap.size (u1.heap.size + 1) LA (allIs (gs.take k) ++ is.take j) l3 (nb - 1) wr) := hS
        have B := hS.below
        clear hS HS1 HS
        by_cases hjt : j < n
        · have hji : (j : Int) < (n : Int) := by omega
          have hjl : j < is.length := by rw [← HNi.out]; exact hjt
          obtain ⟨b2, o2, rfl, hcc⟩ := HCI.out (by omega)
          obtain ⟨g0, g1⟩ := hcc j hjl
          have hst : Hid (allIs (gs.take k) ++ is.take (j + 1) = (allIs (gs.take k) ++ is.take j) ++ [is[j]]) := by
            show _ = _
            rw [List.take_succ_eq_append_getElem hjl, List.append_assoc]
          have hin : Hid (is[j] ∈ allIs gs) := hmem.out _ (List.getElem_mem hjl)
          generalize (is[j]'hjl) = q at g0 g1 hst hin
          obtain ⟨qb, qa, qn, qc⟩ := q
          dsimp only at g0 g1
          have lb := block_lt_of_cell g0
          have e0 := (B.cell (p := ⟨b2, o2 + j * 2, none⟩) lb).trans g0
          have e1 := (B.cell (p := ⟨b2, o2 + j * 2 + 1, none⟩) lb).trans g1
          have bx := Box.new wr #[.int .i64 qb, .slice qa qn qc] 89
          have S1 := HT.out.alloc (.cells #[.int .i64 qb, .slice qa qn qc] 89)
          have lx := S1.box
          rw [HLA.out] at lx
          have y0 := bx.cell 0
          have y1 := bx.cell 1
          have z0 := lx.cell 0
          have z3 := lx.cell 3
          simp only [List.getElem?_toArray, List.getElem?_cons_zero, List.getElem?_cons_succ] at y0 y1 z0 z3
          have cW := within_at qb l3 (nb - 1) (wr.alloc (.cells #[.int .i64 qb, .slice qa qn qc] 89))
          have BB := S1.below
          clear hcc g0 g1 lb lx B
          cases hr : wi qb l3 (nb - 1) with
          | false =>
            rw [hr] at cW
            have hno : Hid ((allIs gs).all (rightIm l3 (nb - 1)) = false) := by
              show _ = _
              rw [List.all_eq_false]
              exact ⟨_, hin.out, by simp [rightIm, hr]⟩
            clear S1 hr
            go_wp2_with fail
            refine Calls.mono cW ?_
            rintro r u2 ⟨rfl, rfl⟩
            go_wp2_with fail
            exact bodyPost_ret (v := .tuple #[.slice none 0 0, .int .i64 90]) (by simp [results, Tryz.results161, go_sem]) rfl ⟨fun h => (by rw [hno.out] at h; cases h), fun _ => rfl, BB⟩
          | true =>
            rw [hr] at cW
            obtain ⟨u', hrun, S2, gb⟩ := S1.put (by have := HZ.out; omega) (by have := HZ.out; omega) H3.out.1 H3.out.2 (qb, qa, qn, qc) hr
            have HS2 : Hid (St w w.heap.size (u1.heap.size + 1) LA ((allIs (gs.take k) ++ is.take j) ++ [(qb, qa, qn, qc)]) l3 (nb - 1) u') := S2
            unfold imV at hrun
            dsimp only at hrun
            clear S1 S2 gb hr
            go_wp2_with fail
            refine Calls.mono cW ?_
            rintro r u2 ⟨rfl, rfl⟩
            go_wp2_with fail
            go_roundw
            case rel => exact ⟨j + 1, by omega, by push_cast; rfl, by rw [hst.out]; exact HS2.out⟩
            case measure => simp [intOf]; omega
        · have hje : j = n := by omega
          have hS2 : Hid (St w w.heap.size (u1.heap.size + 1) LA (allIs (gs.take (k + 1))) l3 (nb - 1) wr) := by
            have := HT.out
            rw [hje, HNi.out, List.take_length, ← hnext.out] at this
            exact this
          clear HT B
          subst hje
          go_wp2_with fail
          go_roundw
          case rel => exact ⟨k + 1, by omega, by push_cast; rfl, hS2.out⟩
          case measure => simp [intOf]; omega
    · have hke : k = gn := by omega
      have hS2 : St w w.heap.size (u1.heap.size + 1) LA (allIs gs) l3 (nb - 1) wr := by
        have := HS.out
        rw [hke, ← HN.out, List.take_length] at this
        exact this
      have cc := HR.out hS2.all wr (u1.heap.size + 1) hS2.map hS2.below
      have HA : Hid ((allIs gs).all (rightIm l3 (nb - 1)) = true) := hS2.all
      clear HS hS2
      subst hke
      go_wp2_with fail
      refine Calls.mono cc ?_
      rintro r u2 ⟨v, rfl, hQ, b2⟩
      go_wp2_with fail
      exact bodyPost_ret (v := .tuple #[v, .int .i64 0]) (by simp [results, Tryz.results161, go_sem]) rfl ⟨fun _ => ⟨v, rfl, hQ⟩, fun h => (by rw [HA.out] at h; cases h), B.trans b2⟩
end Go.Proofs.YtnldkpckojhbhaaGreat.H

/-
  slices.Sorted(maps.Keys(m)): the keys, by rising numbers.
-/
namespace Go.Proofs.YtnldkpckojhbhaaGreat.H
open Go.RowKit Go.Maps Go.Sort Go.Shelf

theorem keys_at (mb : Option Nat) (W : World) : Calls Tryz.prog 241 #[.map mb] W fun e w' => e = .returned (.func (.func 274) #[] #[.pointer (some ⟨W.heap.size, 0, none⟩)]) ∧ w' = W.alloc (.cells #[.map mb] 265) :=
  (callsIn_wide (n := 5)).1 (AnyZI.keys_in keysA Fence.wide 5 trivial rfl mb W)

def Rising (m : Int → Option Value) (ks : List Int) : Prop := ks.Pairwise (· < ·) ∧ ∀ x, x ∈ ks ↔ (m x).isSome = true
theorem rising_of {m : Int → Option Value} {ss : List Int} (hnd : ss.Nodup) (hm : ∀ x, x ∈ ss ↔ (m x).isSome = true) : Rising m (ss.mergeSort (fun x y => decide (x ≤ y))) := by
  refine ⟨?_, fun x => by rw [List.mem_mergeSort]; exact hm x⟩
  have h1 := List.pairwise_mergeSort (le := fun x y : Int => decide (x ≤ y)) (fun a b c h1 h2 => by simp only [decide_eq_true_eq] at *; omega) (fun a b => by simp only [Bool.or_eq_true, decide_eq_true_eq]; omega) ss
  have h2 : (ss.mergeSort (fun x y => decide (x ≤ y))).Nodup := (List.mergeSort_perm ss _).nodup_iff.2 hnd
  refine (h1.and h2).imp fun {a b} h => ?_
  have := h.1
  simp only [decide_eq_true_eq] at this
  have := h.2
  omega

theorem sorted_at {w : World} {b n : Nat} {m : Int → Option Value} (h : MapI w b n m) (hn : n ≤ 100000) :
    Calls Tryz.prog 187 #[.func (.func 274) #[] #[.pointer (some ⟨w.heap.size, 0, none⟩)]] (w.alloc (.cells #[.map (some b)] 265)) fun e w' =>
      ∃ v ks, e = .returned v ∧ Rising m ks ∧ ks.length ≤ n ∧ w'.ownsRow w.heap.size 3 1 v ks.length (ks.map encZ) ∧ Below w.heap.size w w' := by
  obtain ⟨D0, hown, hnd, hmem⟩ := h.keys
  have hbl := hown.lt
  have hsz := hown.size_le
  have hseq : SeqGives Fence.wide 2 Tryz.prog 274 #[.pointer (some ⟨w.heap.size, 0, none⟩)] encZ (fun ss => ss.Perm (intKeys D0)) (Maps.size D0) (w.alloc (.cells #[.map (some b)] 265)) :=
    AnyZI.keys_gives (ρ := keysA_ren) { keysA with } Fence.wide _ trivial rfl (by omega) w.heap.size b n D0 _ (by simp) (by simp) (by
      obtain ⟨es, clock, hb, Ft, hs, hD⟩ := hown
      exact ⟨es, clock, (Below.heap_alloc _ _ b hbl).trans hb, Ft, hs, hD⟩)
  have cS := AnyZI.sorted_in sortedA Fence.wide 5 trivial trivial trivial trivial rfl (by omega) (sortsA _) (enters_of Tryz.func180 (by kernel_rfl) rfl) 274 #[.pointer (some ⟨w.heap.size, 0, none⟩)] trivial (enters_of Tryz.func274 (by kernel_rfl) rfl) _ _ (by unfold maxLen; omega) (by omega) _ hseq
  change CallsIn _ _ Tryz.prog 187 _ _ _ at cS
  refine ((callsIn_wide).1 cS).mono ?_
  rintro e w' ⟨v, ss, rfl, hS, hrow, hnil, hb⟩
  have hl : (ss.mergeSort (fun x y => decide (x ≤ y))).length = ss.length := List.length_mergeSort ss
  have hl2 : ss.length = Maps.size D0 := by
    rw [hS.length_eq]
    obtain ⟨es, rfl⟩ := hown.isMap
    simp [intKeys, size_eq]
  refine ⟨v, _, rfl, rising_of (hS.nodup_iff.2 hnd) (fun x => by rw [hS.mem_iff]; exact hmem x), by rw [hl, hl2]; exact hsz, ?_, ((Below.refl _ w).alloc (Nat.le_refl _) _).trans (hb.mono (by simp))⟩
  rw [hl]
  exact owns_le hrow (by simp)
end Go.Proofs.YtnldkpckojhbhaaGreat.H

/-
  rising: the images by rising blocks, each datum a copy.
-/
namespace Go.Proofs.YtnldkpckojhbhaaGreat.H
open Go.RowKit Go.Maps
open Go.Proofs.YtnldkpckojhbhaaGreat.Rc (GG GetJ imgC madeL RowB owns_below owns_shape owns_block Box)

theorem owns_cells {w : World} {B e size n m : Nat} {a : Option Addr} {c : Nat} {xs : List Value} (ho : w.ownsRow B e size (.slice a n c) m xs) (h0 : 0 < m) :
    ∃ g, a = some ⟨g, 0, none⟩ ∧ B ≤ g ∧ (∃ cur, Box w g cur e) ∧ ∀ j, j < m * size → w.cell? ⟨g, j, none⟩ = xs[j]? := by
  rcases ho.2 with ⟨h1, h2⟩ | ⟨g, cap, cur, h1, hBg, hg2, hnc, hcm, hcs, ht⟩
  · omega
  · injection h1 with h1
    subst h1
    have hB : Box w g cur e := hg2
    refine ⟨g, rfl, hBg, ⟨cur, hB⟩, fun j hj => ?_⟩
    rw [hB.cell j, ← ht, List.getElem?_take, if_pos hj]
    simp

def Whole (w : World) (m : Int → Option Value) (dat : Int → List UInt8) : Prop := ∀ k, (m k).isSome = true → ∃ g o c, m k = some (.agg #[.int .i64 k, .slice (some ⟨g, o, none⟩) 4096 c]) ∧ Rc.Rd w (some ⟨g, o, none⟩) (dat k) ∧ (dat k).length = 4096

set_option maxRecDepth 100000 in
set_option maxHeartbeats 4000000 in
theorem rising_at {w : World} {b n : Nat} {m : Int → Option Value} {dat : Int → List UInt8} (h : MapI w b n m) (hn : n ≤ 1000) (hw : Whole w m dat) :
    Calls Tryz.prog 208 #[.map (some b)] w fun r w' => ∃ a' c' ks qs, r = .returned (.slice a' (List.length ks) c') ∧ Rising m ks ∧ ks.length ≤ n ∧ w'.ownsRow w.heap.size 89 2 (.slice a' ks.length c') ks.length (imgC qs) ∧ GetJ w.heap.size w' qs ∧ qs.map (fun p => (p.b, p.xs)) = ks.map (fun k => (k, dat k)) ∧ Below w.heap.size w w' := by
  obtain ⟨i0, hi, hz0, hz1, hz2⟩ := info_parts Rc.info38
  have cK := keys_at (some b) w
  have cS := sorted_at h (by omega : n ≤ 100000)
  have HW : Hid (Whole w m dat) := hw
  have HM : Hid (MapI w b n m) := h
  clear h hw
  go_enter Tryz.func208, Tryz.ntmps208
  go_wp2_with fail
  refine Calls.mono cK ?_
  rintro r u1 ⟨rfl, rfl⟩
  clear cK
  go_wp2_with fail
  refine Calls.mono cS ?_
  rintro r u2 ⟨v, ks, rfl, hR, hkn, hrow, b2⟩
  have HR : Hid (Rising m ks) := hR
  have HRow : Hid (u2.ownsRow w.heap.size 3 1 v ks.length (ks.map encZ)) := hrow
  obtain ⟨ak, ck, rfl⟩ := owns_shape hrow
  obtain ⟨N, hN⟩ : ∃ N, N = ks.length := ⟨_, rfl⟩
  have HN : Hid (N = ks.length) := hN
  rw [← hN] at HRow hkn ⊢
  clear hN hrow hR cS
  go_wp2_with fail
  go_loopw [3, 10] (fun v i u => ∃ (k : Nat) (qs : List GG), k ≤ N ∧ i = .int .i64 (k : Int) ∧ u.ownsRow u2.heap.size 89 2 v k (imgC qs) ∧ GetJ w.heap.size u qs ∧ qs.map (fun p => (p.b, p.xs)) = (ks.take k).map (fun k => (k, dat k)) ∧ Below u2.heap.size u2 u) (fun _ i _ => N - (intOf i).toNat)
  case atStart => exact ⟨0, [], Nat.zero_le _, rfl, World.ownsRow_nil _ _ _ _, ⟨fun p hp => (by cases hp), List.nodup_nil⟩, by simp, Below.refl _ _⟩
  case round =>
    obtain ⟨k, qs, hk, rfl, hown, hJ, hps, B⟩ := hrel
    have HPS : Hid (qs.map (fun p => (p.b, p.xs)) = (ks.take k).map (fun k => (k, dat k))) := hps
    have HJ : Hid (GetJ w.heap.size wr qs) := hJ
    have HOWN : Hid (wr.ownsRow u2.heap.size 89 2 u3 k (imgC qs)) := hown
    clear hps hJ
    obtain ⟨av, cv, rfl⟩ := owns_shape hown
    by_cases hlt : k < N
    · have hki : (k : Int) < (N : Int) := by omega
      have hkl : k < ks.length := by rw [← HN.out]; exact hlt
      obtain ⟨kg, rfl, _, _, hc⟩ := owns_cells HRow.out (by omega)
      obtain ⟨K, hK⟩ : ∃ K, K = ks[k] := ⟨_, rfl⟩
      have ck0 : u2.cell? ⟨kg, k, none⟩ = some (.int .i64 K) := by
        rw [hc k (by omega), hK]
        simp [hkl]
      have ckw : wr.cell? ⟨kg, k, none⟩ = some (.int .i64 K) := (B.cell (p := ⟨kg, k, none⟩) (block_lt_of_cell ck0)).trans ck0
      obtain ⟨g, o, c, em, rd, hl⟩ := HW.out K ((HR.out.2 K).1 (by rw [hK]; exact List.getElem_mem hkl))
      have Bw : Below w.heap.size w wr := b2.trans (B.mono b2.size)
      have lk := (HM.out.below Bw).look K _ em
      have cC := Rc.clone_at c 4096 g o (dat K) wr hl (by decide) (by decide) (rd.below Bw (Nat.le_refl _))
      have hstep : Hid ((ks.take (k + 1)).map (fun k => (k, dat k)) = (ks.take k).map (fun k => (k, dat k)) ++ [(K, dat K)]) := by
        show _ = _
        rw [List.take_succ_eq_append_getElem hkl, List.map_append, hK]; rfl
      have hml : Hid ((dat K).length = 4096) := hl
      generalize dat K = ml at cC hstep hml
      clear hown hc ck0 hK rd hl em
      have fd : (Instr.field 89 (.agg #[.int .i64 K, .slice (some ⟨g, o, none⟩) 4096 c]) 1).run Tryz.prog wr = .ok (.slice (some ⟨g, o, none⟩) 4096 c) wr := by kernel_rfl
      go_wp2_with fail
      refine Calls.mono cC ?_
      rintro r W ⟨hg, cg, rfl, hgl, om, bW⟩
      have z0 : w.heap.size ≤ wr.heap.size := Bw.size
      have J2 : Hid (GetJ w.heap.size W (qs ++ [⟨K, ml, hg, cg⟩])) := HJ.out.snoc bW ⟨K, ml, hg, cg⟩ om hgl hml.out z0
      have O2 : Hid (W.ownsRow u2.heap.size 89 2 (.slice av k cv) k (imgC qs)) := owns_below HOWN.out bW
      have B1 := B.trans (bW.mono B.size)
      have own1 := (O2.out).alloc (.cells #[.int .i64 K, .slice (some ⟨hg, 0, none⟩) 4096 cg] 89)
      have z1 := B1.size
      have z2 := b2.size
      clear om bW cC B fd lk ckw
      go_wp2_with (at_builtin; refine wpList_append_own _ rfl _ _ 29 rfl u2.heap.size 89 i0 _ 2 32 Tryz.underlying29 hi hz0 hz1 hz2 rfl (by decide) _ k _ rfl own1 ⟨W.heap.size, 0, none⟩ 1 1 [.int .i64 K, .slice (some ⟨hg, 0, none⟩) 4096 cg] rfl rfl ?c1 ?c2 ?c3 ?c4 ?c5 ?_)
      case c1 => exact World.news_of_block (cs := #[.int .i64 K, .slice (some ⟨hg, 0, none⟩) 4096 cg]) (t := 89) (fr := (0, 0)) (heap_alloc_new W _)
      case c2 => intro u hu; simp at hu; rcases hu with rfl | rfl <;> rfl
      case c3 => unfold maxLen; omega
      case c4 => omega
      case c5 => simp; omega
      · intro v' w1 hown1 hgrow _
        have al := (Below.refl _ W).alloc (Nat.le_refl _) (.cells #[.int .i64 K, .slice (some ⟨hg, 0, none⟩) 4096 cg] 89)
        have B2 : Below u2.heap.size u2 w1 := (B1.alloc z1 _).grown hgrow (by simp; omega) (fun j e => (owns_block O2.out j e).1)
        have J3 : GetJ w.heap.size w1 (qs ++ [⟨K, ml, hg, cg⟩]) := (J2.out.below al).grown own1 (by decide) hgrow
        clear hgrow own1 al
        go_wp2_with fail
        go_roundw
        case rel => exact ⟨k + 1, _, by omega, by push_cast; rfl, by simpa [imgC] using hown1, J3, by rw [List.map_append, HPS.out, hstep.out]; rfl, B2⟩
        case measure => simp [intOf]; omega
    · have hke : k = N := by omega
      have hke2 : ks.take k = ks := by rw [hke, HN.out, List.take_length]
      rw [hke2] at HPS
      rw [hke] at HOWN ⊢
      clear hke hlt hk hown hke2
      go_wp2_with fail
      go_ret
      refine ⟨av, cv, ks, qs, by rw [HN.out]; rfl, HR.out, by rw [← HN.out]; exact hkn, ?_, HJ.out, HPS.out, b2.trans (B.mono b2.size)⟩
      rw [← HN.out]
      exact owns_le HOWN.out b2.size
end Go.Proofs.YtnldkpckojhbhaaGreat.H

/-
  Home of images of whole blocks: each block's last one, rising.
-/
namespace Go.Proofs.YtnldkpckojhbhaaGreat.H
open Go.RowKit Go.Maps
open Go.Proofs.YtnldkpckojhbhaaGreat.Rc (GG GetJ imgC Imgs)
open Go.Proofs.YtnldkpckojhbhaaGreat.Dk (Box Upd)

def lastD (L : List (Int × List UInt8)) (k : Int) : Option (List UInt8) := L.foldl (fun o p => if p.1 = k then some p.2 else o) none
def datD (L : List (Int × List UInt8)) (k : Int) : List UInt8 := (lastD L k).getD []
theorem last_both' : ∀ (L : List ImD) (m0 : Int → Option Value) (o0 : Option (List UInt8)) (k : Int),
    (∃ p ∈ L, p.1.1 = k ∧ ((L.map (·.1)).foldl (fun m q => fun j => if j = q.1 then some (imV q) else m j) m0) k = some (imV p.1) ∧ (pl L).foldl (fun o p => if p.1 = k then some p.2 else o) o0 = some p.2) ∨
    (((L.map (·.1)).foldl (fun m q => fun j => if j = q.1 then some (imV q) else m j) m0) k = m0 k ∧ (pl L).foldl (fun o p => if p.1 = k then some p.2 else o) o0 = o0 ∧ ∀ p ∈ L, p.1.1 ≠ k)
  | [], m0, o0, k => .inr ⟨rfl, rfl, fun p h => by cases h⟩
  | q :: r, m0, o0, k => by
    rw [List.map_cons, List.foldl_cons, pl, List.map_cons, List.foldl_cons]
    by_cases e : k = q.1.1
    · rcases last_both' r (fun j => if j = q.1.1 then some (imV q.1) else m0 j) (if q.1.1 = k then some q.2 else o0) k with ⟨p, hp, h1, h2, h3⟩ | ⟨h1, h2, h3⟩
      · exact .inl ⟨p, List.mem_cons_of_mem _ hp, h1, h2, h3⟩
      · refine .inl ⟨q, List.mem_cons_self .., e.symm, ?_, ?_⟩
        · rw [h1, if_pos e]
        · exact h2.trans (if_pos e.symm)
    · rcases last_both' r (fun j => if j = q.1.1 then some (imV q.1) else m0 j) (if q.1.1 = k then some q.2 else o0) k with ⟨p, hp, h1, h2, h3⟩ | ⟨h1, h2, h3⟩
      · exact .inl ⟨p, List.mem_cons_of_mem _ hp, h1, h2, h3⟩
      · refine .inr ⟨?_, h2.trans (if_neg (fun h => e h.symm)), fun p hp => ?_⟩
        · rw [h1, if_neg e]
        · rcases List.mem_cons.1 hp with rfl | hp
          · exact fun h => e h.symm
          · exact h3 p hp
theorem last_both (L : List ImD) (k : Int) : (∃ p ∈ L, p.1.1 = k ∧ mOf (L.map (·.1)) k = some (imV p.1) ∧ lastD (pl L) k = some p.2) ∨ (mOf (L.map (·.1)) k = none ∧ lastD (pl L) k = none ∧ ∀ p ∈ L, p.1.1 ≠ k) := last_both' L _ _ k

theorem whole_of {w : World} {L : List ImD} (h : ∀ p ∈ L, Dk.Rd w p.1.2.1 p.2 ∧ p.2.length = 4096 ∧ p.1.2.2.1 = 4096) : Whole w (mOf (L.map (·.1))) (datD (pl L)) := fun k hk => by
  rcases last_both L k with ⟨p, hp, h1, h2, h3⟩ | ⟨h1, _⟩
  · obtain ⟨r1, r2, r3⟩ := h p hp
    obtain ⟨⟨pb, pa, pn, pc⟩, xs⟩ := p
    dsimp only at h1 h2 h3 r1 r2 r3
    subst h1 r3
    obtain ⟨b, o, rfl, hc⟩ := r1 (by omega)
    have ed : datD (pl L) pb = xs := by rw [datD, h3]; rfl
    refine ⟨b, o, pc, h2, ?_, by rw [ed]; exact r2⟩
    rw [ed]
    exact r1
  · rw [h1] at hk
    cases hk
theorem rising_last {L : List ImD} {ks : List Int} (h : Rising (mOf (L.map (·.1))) ks) : ks.Pairwise (· < ·) ∧ ∀ x, x ∈ ks ↔ (lastD (pl L) x).isSome = true := by
  refine ⟨h.1, fun x => (h.2 x).trans ?_⟩
  rcases last_both L x with ⟨p, hp, h1, h2, h3⟩ | ⟨h1, h2, _⟩
  · rw [h2, h3]; simp
  · rw [h1, h2]; simp

theorem GetJ.le {B B' : Nat} {w : World} {qs : List GG} (h : GetJ B w qs) (hb : B' ≤ B) : GetJ B' w qs := ⟨fun p hp => ⟨(h.rows p hp).1, Nat.le_trans hb (h.rows p hp).2.1, (h.rows p hp).2.2⟩, h.apart⟩

structure HomeR (B : Nat) (L : List (Int × List UInt8)) (ks : List Int) (qs : List GG) (a : Option Addr) (c : Nat) (w : World) : Prop where
  rise : ks.Pairwise (· < ·)
  keys : ∀ x, x ∈ ks ↔ (lastD L x).isSome = true
  len : ks.length ≤ 512
  row : w.ownsRow B 89 2 (.slice a ks.length c) ks.length (imgC qs)
  get : GetJ B w qs
  bytes : qs.map (fun p => (p.b, p.xs)) = ks.map (fun k => (k, datD L k))

theorem home_at (w : World) (ga : Option Addr) (gn gc : Nat) (gs : List Gr) (L : List ImD) (hgn : gs.length = gn) (hgm : gn ≤ 1000000) (hG : CellsG w ga gs) (hL : allIs gs = L.map (·.1)) (hD : ∀ p ∈ L, Dk.Rd w p.1.2.1 p.2 ∧ p.2.length = 4096 ∧ p.1.2.2.1 = 4096) (hR : ∀ p ∈ L, 18 ≤ p.1.1 ∧ p.1.1 ≤ 63) :
    Calls Tryz.prog 161 #[.agg lay, .slice ga gn gc] w fun r w' => ∃ a c ks qs, r = .returned (.tuple #[.slice a (List.length ks) c, .int .i64 0]) ∧ HomeR w.heap.size (pl L) ks qs a c w' ∧ Below w.heap.size w w' := by
  have hall : (allIs gs).all (rightIm 18 ((64 : Nat) - 1)) = true := by
    rw [hL, List.all_eq_true]
    intro q hq
    obtain ⟨p, hp, rfl⟩ := List.mem_map.1 hq
    have := hR p hp
    simp [rightIm, Su.wi]
    omega
  have c := home_in w 64 2 16 18 19 4 23 ga gn gc gs (fun v w' => ∃ a c ks qs, v = .slice a (List.length ks) c ∧ HomeR w.heap.size (pl L) ks qs a c w') lay64 (by decide) (by decide) (by decide) hgn hgm hG (fun _ u gm hm hb => by
    rw [hL] at hm
    refine (rising_at hm (by decide) (whole_of (fun p hp => ?_))).mono ?_
    · obtain ⟨h1, h2, h3⟩ := hD p hp
      exact ⟨h1.below hb (Nat.le_refl _), h2, h3⟩
    · rintro r w' ⟨a', c', ks, qs, rfl, h1, h2, h3, h4, h5, h6⟩
      exact ⟨_, rfl, ⟨a', c', ks, qs, rfl, (rising_last h1).1, (rising_last h1).2, h2, owns_le h3 hb.size, GetJ.le h4 hb.size, h5⟩, h6.mono hb.size⟩)
  refine c.mono ?_
  rintro r w' ⟨h1, _, h3⟩
  obtain ⟨v, rfl, a, c, ks, qs, rfl, hh⟩ := h1 hall
  exact ⟨a, c, ks, qs, rfl, hh, h3⟩
def qD (qs : List GG) : List ImD := qs.map fun p => ((p.b, some ⟨p.h, 0, none⟩, 4096, p.c), p.xs)
theorem HomeR.imsD {B : Nat} {L : List (Int × List UInt8)} {ks : List Int} {qs : List GG} {a : Option Addr} {c : Nat} {w : World} (h : HomeR B L ks qs a c w) (F : Nat → Prop) (hF : ∀ i, F i → i < B) : ImsD w a (qD qs) F ∧ (qD qs).length = ks.length ∧ pl (qD qs) = ks.map fun k => (k, datD L k) := by
  have hq : qs.length = ks.length := by simpa using congrArg List.length h.bytes
  refine ⟨⟨fun hp => ?_, fun p hp => ?_, fun ad e => ?_⟩, by simp [qD, hq], by rw [← h.bytes]; simp [qD, pl]⟩
  · have hp2 : 0 < qs.length := by simpa [qD] using hp
    obtain ⟨g, rfl, _, _, hc⟩ := owns_cells h.row (by omega)
    refine ⟨g, 0, rfl, fun j hj => ?_⟩
    have hj : j < qs.length := by simpa [qD] using hj
    obtain ⟨e1, e2⟩ := Rc.imgC_at qs j hj
    simp only [qD, List.getElem_map, List.map_map]
    refine ⟨?_, ?_⟩
    · rw [Nat.zero_add, hc _ (by omega), e1]
      rfl
    · rw [Nat.zero_add, hc _ (by omega), e2]
      rfl
  · obtain ⟨q, hq, rfl⟩ := List.mem_map.1 hp
    obtain ⟨r1, r2, r3⟩ := h.get.rows q hq
    exact ⟨r1.rd, r3, fun ad e => by
      injection e with e
      rw [← e]
      exact ⟨r1.lt, fun hf => absurd r2 (Nat.not_le.2 (hF _ hf))⟩⟩
  · intro hf
    have := hF _ hf
    rcases h.row.2 with ⟨h1, h2⟩ | ⟨g, cap, cur, h1, hBg, _⟩
    · injection h1 with h1
      rw [h1] at e
      cases e
    · injection h1 with h1
      rw [h1] at e
      injection e with e
      rw [← e] at this
      exact absurd hBg (Nat.not_le.2 this)
end Go.Proofs.YtnldkpckojhbhaaGreat.H
