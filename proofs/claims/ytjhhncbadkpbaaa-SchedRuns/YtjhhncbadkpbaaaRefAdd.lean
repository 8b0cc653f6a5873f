/-
  The document's own Add.
-/
import Derived.Test.YtjhhncbadkpbaaaRefApp
import Derived.Test.YtjhhncbadkpbaaaTStep
namespace Go.Proofs.Ytjhhncbadkpbaaa
open Go.RowKit
def RS.add (R : RS) : RS := { R with St := R.St ++ [1], Sp := R.Sp ++ [0], Ln := R.Ln ++ [R.St.length + 1] }
/-- what Add answers and leaves -/
def AddR (w : World) (B g : Nat) (V : RV) (R : RS) (P : List PV) (r : Ending) (w' : World) : Prop := (R.cnt = 64 ∧ r = .returned (.bool false) ∧ w' = w) ∨ (R.cnt ≠ 64 ∧ r = .returned (.bool true) ∧ RTo w B g V R.add P w')
theorem cnt_succ (l : List Nat) (k : Nat) (h : k < l.length) : ((l.take (k + 1)).filter (· != 3)).length = ((l.take k).filter (· != 3)).length + if l[k] = 3 then 0 else 1 := by
  rw [List.take_succ_eq_append_getElem h, List.filter_append, List.length_append]
  by_cases h3 : l[k] = 3
  · simp [h3]
  · simp [h3]
set_option maxRecDepth 20000 in
set_option maxHeartbeats 2000000 in
theorem radd_at {w : World} {B g : Nat} {V : RV} {R : RS} {P : List PV} (h : RB w B g V R P) (hl : R.St.length < 1000) (hl2 : R.Sp.length < 1000) (hl3 : R.Ln.length < 1000) :
    Calls Try.prog 13 #[ptr g] w fun r w' => AddR w B g V R P r w' := by
  obtain ⟨i0, hi0, hz0, hz1, hz2⟩ := info_parts infoI
  obtain ⟨n, hn⟩ : ∃ n, n = R.St.length := ⟨_, rfl⟩
  have HN : Hid (n = R.St.length) := hn
  obtain ⟨a0, c0, hv⟩ := ownsRow_slice h.rs
  rw [← hn] at hv hl
  have c1 : w.cell? ⟨g, 1, none⟩ = some (.slice a0 n c0) := by rw [← hv]; exact h.box.cell 1
  have HC : Hid (∀ j (hj : j < R.St.length), ∃ q, a0 = some ⟨q, 0, none⟩ ∧ w.cell? ⟨q, j, none⟩ = some (.int .i64 ((R.St[j] : Nat) : Int))) := fun j hj => by
    obtain ⟨q, cap, e1, x1, _⟩ := ics_at h.rs rfl j hj
    rw [hv] at e1
    injection e1 with e1
    exact ⟨q, e1, x1⟩
  have Hh : Hid (RB w B g V R P) := h
  have Hv : Hid (V.vs = .slice a0 n c0) := hv
  have Hcs := fun k (hk : k < R.St.length) => cnt_succ R.St k hk
  have HCS : Hid (∀ k (hk : k < R.St.length), ((R.St.take (k + 1)).filter (· != 3)).length = ((R.St.take k).filter (· != 3)).length + if R.St[k] = 3 then 0 else 1) := Hcs
  obtain ⟨ct, hct⟩ : ∃ ct : Nat → Nat, ct = fun k => ((R.St.take k).filter (· != 3)).length := ⟨_, rfl⟩
  have Hct : Hid (ct = fun k => ((R.St.take k).filter (· != 3)).length) := hct
  have hctn : ct n = R.cnt := by rw [hct, hn]; unfold RS.cnt; simp
  have Hctn : Hid (ct n = R.cnt) := hctn
  have hctle : ∀ k, ct k ≤ k := fun k => by rw [hct]; exact Nat.le_trans (List.length_filter_le _ _) (List.length_take_le _ _)
  have Hctle : Hid (∀ k, ct k ≤ k) := hctle
  clear h hv hn Hcs hct hctn hctle
  unfold ptr
  go_enter Try.func13, Try.ntmps13
  go_wp2_with fail
  go_loop [3, 4] (fun o i => ∃ k : Nat, k ≤ n ∧ i = .int .i64 (k : Int) ∧ o = .int .i64 ((ct k : Nat) : Int)) (fun _ i => n - (intOf i).toNat)
  case atStart => exact ⟨0, Nat.zero_le _, rfl, by rw [Hct.out]; rfl⟩
  case round =>
    obtain ⟨k, hk, rfl, rfl⟩ := hrel
    have hle := Hctle.out k
    by_cases hlt : k < n
    · have hkS : k < R.St.length := by rw [← HN.out]; exact hlt
      have hki : (k : Int) < (n : Int) := by omega
      obtain ⟨q, rfl, xk⟩ := HC.out k hkS
      have hcs := HCS.out k hkS
      obtain ⟨y, hy⟩ : ∃ y : Int, y = ((R.St[k] : Nat) : Int) := ⟨_, rfl⟩
      rw [← hy] at xk
      have hle' : ((ct k : Nat) : Int) < 1000 := by omega
      by_cases h3 : R.St[k] = 3
      · rw [if_pos h3] at hcs
        have HS : Hid (ct (k + 1) = ct k) := by rw [Hct.out]; exact hcs
        have hy3 : y = 3 := by rw [hy, h3]; rfl
        rw [hy3] at xk
        clear hcs hy h3 hy3 hle
        go_wp2_with fail
        go_round
        case rel => exact ⟨k + 1, by omega, by go_num, by rw [HS.out]⟩
        case measure => simp [intOf]; omega
      · rw [if_neg h3] at hcs
        have HS : Hid (ct (k + 1) = ct k + 1) := by rw [Hct.out]; exact hcs
        have hy3 : ¬ y = 3 := by rw [hy]; omega
        clear hcs hy h3 hle
        go_wp2_with fail
        go_round
        case rel => exact ⟨k + 1, by omega, by go_num, by rw [HS.out]; go_num⟩
        case measure => simp [intOf]; omega
    · have hkn : k = n := by omega
      subst k
      by_cases h64 : ct n = 64
      · have h64' : ((ct n : Nat) : Int) = 64 := by omega
        have H64 : Hid (R.cnt = 64) := by rw [← Hctn.out]; exact h64
        rw [h64']
        clear hle h64 h64'
        go_wp2_with fail
        go_ret
        exact .inl ⟨H64.out, rfl, rfl⟩
      · have h64' : ¬ ((ct n : Nat) : Int) = 64 := by omega
        have H64 : Hid (R.cnt ≠ 64) := by rw [← Hctn.out]; exact h64
        have H0 := Hh.out
        have own1 := H0.rs.alloc (.cells #[.int .i64 1] 3)
        rw [← HN.out, Hv.out] at own1
        have hx1 := Box.new w #[.int .i64 1] 3
        have hB0 := H0.hB
        obtain ⟨xs1, hxs1⟩ : ∃ xs, xs = ics R.St := ⟨_, rfl⟩
        rw [← hxs1] at own1
        have Hxs1 : Hid (xs1 = ics R.St) := hxs1
        clear hle h64 H0 hxs1
        go_wp2_with (at_builtin; refine wpList_append_own_at _ rfl _ _ 39 rfl B 3 i0 (.int .i64 0) 1 8 Try.underlying39 hi0 hz0 hz1 hz2 rfl (by decide) _ n _ rfl own1 ⟨w.heap.size, 0, none⟩ 1 1 [.int .i64 1] rfl rfl (one_cell hx1) ?c2 ?c3 ?c4 ?c5 ?_)
        case c2 => first | rfl | (intro u hu; simp at hu; subst hu; rfl)
        case c3 => unfold maxLen; omega
        case c4 => omega
        case c5 => first | omega | (simp; omega)
        intro v1 w1 ho1 hg1 _ hw1
        obtain ⟨hR1, hF1, hT1, hbx1, asv, ns, cs, hv1⟩ := Hh.out.vsApp 1 v1 w1 (by rw [← HN.out, ← Hxs1.out]; exact ho1) (by rw [Hv.out]; exact hg1) (by rw [Hv.out]; rcases hw1 with h1 | h1; exact .inl h1; exact .inr (by rw [h1]; simp))
        have e1 : ns = n + 1 := by
          obtain ⟨a', c', e⟩ := ownsRow_slice ho1
          rw [hv1] at e
          injection e
        subst e1
        obtain ⟨W1, hW1⟩ : ∃ W1, w1.setCell ⟨g, 1, none⟩ v1 = W1 := ⟨_, rfl⟩
        rw [hW1] at hR1 hT1
        have d1 : w1.cell? ⟨g, 1, none⟩ = some (.slice a0 n c0) := by rw [← Hv.out]; exact hbx1.cell 1
        have f1 := hbx1.frozen 1
        have HR1 : Hid (RB W1 B g { V with vs := v1 } { R with St := R.St ++ [1] } P) := hR1
        have HT1 : Hid (RTo w B g V { R with St := R.St ++ [1] } P W1) := hT1
        have HF1 : Hid (∀ k, RF g { V with vs := v1 } k → RF g V k ∨ w.heap.size ≤ k) := hF1
        obtain ⟨an, cn, hvn⟩ := ownsRow_slice hR1.rn
        obtain ⟨m2, hm2⟩ : ∃ m, m = R.Sp.length := ⟨_, rfl⟩
        have c2 : W1.cell? ⟨g, 2, none⟩ = some V.vn := hR1.box.cell 2
        have own2 : (W1.alloc (.cells #[.int .i64 0] 3)).ownsRow B 3 1 V.vn R.Sp.length (ics R.Sp) := hR1.rn.alloc _
        change V.vn = .slice an R.Sp.length cn at hvn
        rw [← hm2] at hvn own2 hl2
        rw [hvn] at c2 own2
        have Hvn : Hid (V.vn = .slice an m2 cn) := hvn
        have Hm2 : Hid (m2 = R.Sp.length) := hm2
        obtain ⟨xs2, hxs2⟩ : ∃ xs, xs = ics R.Sp := ⟨_, rfl⟩
        rw [← hxs2] at own2
        have Hxs2 : Hid (xs2 = ics R.Sp) := hxs2
        have hx2 := Box.new W1 #[.int .i64 0] 3
        have hB1 := hR1.hB
        clear ho1 hg1 hw1 hR1 hF1 hT1 hbx1 own1 hx1 hvn hm2 hxs2
        subst hv1
        go_wp2_with (at_builtin; refine wpList_append_own_at _ rfl _ _ 39 rfl B 3 i0 (.int .i64 0) 1 8 Try.underlying39 hi0 hz0 hz1 hz2 rfl (by decide) _ m2 _ rfl own2 ⟨W1.heap.size, 0, none⟩ 1 1 [.int .i64 0] rfl rfl (one_cell hx2) ?c2 ?c3 ?c4 ?c5 ?_)
        case c2 => first | rfl | (intro u hu; simp at hu; subst hu; rfl)
        case c3 => unfold maxLen; omega
        case c4 => omega
        case c5 => first | omega | (simp; omega)
        intro v2 w2 ho2 hg2 _ hw2
        obtain ⟨hR2, hF2, hT2, hbx2, an', nn', cn', hv2⟩ := HR1.out.vnApp 0 v2 w2 (by show w2.ownsRow B 3 1 v2 (R.Sp.length + 1) (ics R.Sp ++ [.int .i64 0]); rw [← Hm2.out, ← Hxs2.out]; exact ho2) (by show World.grownBy _ _ V.vn.ownBlock; rw [Hvn.out]; exact hg2) (by show _ = V.vn.ownBlock ∨ _; rw [Hvn.out]; rcases hw2 with h1 | h1; exact .inl h1; exact .inr (by rw [h1]; simp))
        obtain ⟨W, hW⟩ : ∃ W, w2.setCell ⟨g, 2, none⟩ v2 = W := ⟨_, rfl⟩
        rw [hW] at hR2 hT2
        have d2 : w2.cell? ⟨g, 2, none⟩ = some (.slice an m2 cn) := by rw [← Hvn.out]; exact hbx2.cell 2
        have f2 := hbx2.frozen 2
        have hTT : RTo w B g V { R with St := R.St ++ [1], Sp := R.Sp ++ [0] } P W := RTo.trans HT1.out HF1.out hT2
        have hFF : ∀ k, RF g { V with vs := .slice asv (n + 1) cs, vn := v2 } k → RF g V k ∨ w.heap.size ≤ k := fun k hk => by
          rcases hF2 k hk with h1 | h1
          · exact HF1.out k h1
          · exact .inr (Nat.le_trans HT1.out.bel.size h1)
        have hWd := hR2.below (w' := W.drew) ⟨rfl, rfl, rfl, Nat.le_refl _, fun _ _ => rfl⟩
        have HS0 : Hid (W.drew.cell? ⟨g, 1, none⟩ = some (.slice asv (n + 1) cs)) := hWd.box.cell 1
        have HSa : Hid ((W.drew.alloc (.cells #[.int .i64 ((n : Int) + 1)] 3)).cell? ⟨g, 1, none⟩ = some (.slice asv (n + 1) cs)) := (hWd.box.alloc _).cell 1
        obtain ⟨al, cl, hvl⟩ := ownsRow_slice hWd.rl
        obtain ⟨nl, hnl⟩ : ∃ m, m = R.Ln.length := ⟨_, rfl⟩
        change V.vl = .slice al R.Ln.length cl at hvl
        rw [← hnl] at hvl hl3
        have Hvl : Hid (V.vl = .slice al nl cl) := hvl
        have d3 : W.drew.cell? ⟨g, 3, none⟩ = some (.slice al nl cl) := by rw [← Hvl.out]; exact hWd.box.cell 3
        have d3a : (W.drew.alloc (.cells #[.int .i64 ((n : Int) + 1)] 3)).cell? ⟨g, 3, none⟩ = some (.slice al nl cl) := by rw [← Hvl.out]; exact (hWd.box.alloc _).cell 3
        have d3b : (W.alloc (.cells #[.int .i64 ((n : Int) + 1)] 3)).cell? ⟨g, 3, none⟩ = some (.slice al nl cl) := d3a
        have own3 : (W.drew.alloc (.cells #[.int .i64 ((n : Int) + 1)] 3)).ownsRow B 3 1 (.slice al nl cl) nl (ics R.Ln) := by
          have := hWd.rl.alloc (.cells #[.int .i64 ((n : Int) + 1)] 3)
          change (W.drew.alloc (.cells #[.int .i64 ((n : Int) + 1)] 3)).ownsRow B 3 1 V.vl R.Ln.length (ics R.Ln) at this
          rw [← hnl, hvl] at this
          exact this
        have hx3 := Box.new W.drew #[.int .i64 ((n : Int) + 1)] 3
        have hBW : B ≤ W.heap.size := hR2.hB
        have HFin : Hid (∀ v4 W4, W4.ownsRow B 3 1 v4 (nl + 1) (ics R.Ln ++ [.int .i64 ((n : Int) + 1)]) → (W.drew.alloc (.cells #[.int .i64 ((n : Int) + 1)] 3)).grownBy W4 (Value.ownBlock (.slice al nl cl)) → (v4.ownBlock = Value.ownBlock (.slice al nl cl) ∨ v4.ownBlock = some (W.drew.alloc (.cells #[.int .i64 ((n : Int) + 1)] 3)).heap.size) →
            W4.cell? ⟨g, 1, none⟩ = some (.slice asv (n + 1) cs) ∧ (W4.setCell ⟨g, 3, none⟩ v4).cell? ⟨g, 1, none⟩ = some (.slice asv (n + 1) cs) ∧ W4.cell? ⟨g, 3, none⟩ = some (.slice al nl cl) ∧ W4.frozen? ⟨g, 3, none⟩ = false ∧ (∃ a n c, v4 = .slice a n c) ∧ RTo w B g V R.add P (W4.setCell ⟨g, 3, none⟩ v4)) := fun v4 W4 ho hg hw => by
          have ez : ((n : Int) + 1) = ((R.St.length + 1 : Nat) : Int) := by rw [← HN.out]; omega
          rw [ez] at ho hg hw
          obtain ⟨hR4, hF4, hT4, hbx4, hex⟩ := hWd.vlApp (R.St.length + 1) v4 W4 (by show W4.ownsRow B 3 1 v4 (R.Ln.length + 1) (ics R.Ln ++ [_]); rw [← hnl]; exact ho) (by show World.grownBy _ _ V.vl.ownBlock; rw [Hvl.out]; exact hg) (by show _ = V.vl.ownBlock ∨ _; rw [Hvl.out]; exact hw)
          have hWW : RTo w B g V { R with St := R.St ++ [1], Sp := R.Sp ++ [0] } P W.drew := ⟨⟨_, hWd, hFF⟩, ⟨hTT.bel.os, hTT.bel.tape, hTT.bel.output, hTT.bel.size, hTT.bel.block⟩, fun i cs t x a b => hTT.kt i cs t x a b⟩
          exact ⟨hbx4.cell 1, hR4.box.cell 1, by rw [← Hvl.out]; exact hbx4.cell 3, hbx4.frozen 3, hex, RTo.trans hWW hFF hT4⟩
        clear ho2 hg2 hw2 hR2 hF2 hT2 hbx2 own2 hx2 hTT hFF hWd hvl hnl HR1 HT1 HF1
        subst hv2
        go_wp2_with fail
        refine wp_region_noPanic ?_
        refine wp_region_held_drew (S := fun u => u.cell? ⟨g, 1, none⟩ = some (.slice asv (n + 1) cs)) (by kernel_rfl) HS0.out (fun hHeld => ?_)
        refine wpAnyH_take (i := 0) (v := ?_) rfl (by kernel_rfl) (by kernel_rfl) (by kernel_rfl) (fun _ _ _ h => h) (Or.inl ⟨by rfl, ?_⟩) (by assumption) ?_
        rotate_left
        · intro u hSu
          go_simp
          with_reducible rfl
        simp only [Act.put, List.setIfInBounds_toArray, List.set_cons_zero, List.set_cons_succ, List.getElem_toArray, List.getElem_cons_zero]
        refine wpAnyH_take (i := 1) (v := ?_) rfl (by kernel_rfl) (by kernel_rfl) (by kernel_rfl) (fun _ _ _ h => h) (Or.inl ⟨by rfl, ?_⟩) (by assumption) ?_
        rotate_left
        · intro u hSu
          go_simp
          with_reducible rfl
        simp only [Act.put, List.setIfInBounds_toArray, List.set_cons_zero, List.set_cons_succ, List.getElem_toArray, List.getElem_cons_zero, List.getElem_cons_succ]
        refine wpAnyH_take (i := 2) (v := ?_) rfl (by kernel_rfl) (by kernel_rfl) (by kernel_rfl) (fun _ _ _ h => h) (Or.inl ⟨by rfl, ?_⟩) (by assumption) ?_
        rotate_left
        · intro u hSu
          go_simp
          with_reducible rfl
        simp only [Act.put, List.setIfInBounds_toArray, List.set_cons_zero, List.set_cons_succ, List.getElem_toArray, List.getElem_cons_zero, List.getElem_cons_succ]
        refine wpAnyH_take (i := 3) (v := ?_) rfl (by kernel_rfl) (by kernel_rfl) (by kernel_rfl) (fun _ _ _ h => h) (Or.inl ⟨by rfl, ?_⟩) (by assumption) ?_
        rotate_left
        · intro u hSu
          go_simp
          with_reducible rfl
        simp only [Act.put, List.setIfInBounds_toArray, List.set_cons_zero, List.set_cons_succ, List.getElem_toArray, List.getElem_cons_zero, List.getElem_cons_succ]
        refine wpAnyH_take (i := 5) (v := ?_) rfl (by kernel_rfl) (by kernel_rfl) (by kernel_rfl) (fun _ _ _ h => h) (Or.inl ⟨by rfl, ?_⟩) (by assumption) ?_
        rotate_left
        · intro u hSu
          go_simp
          with_reducible rfl
        simp only [Act.put, List.setIfInBounds_toArray, List.set_cons_zero, List.set_cons_succ, List.getElem_toArray, List.getElem_cons_zero, List.getElem_cons_succ]
        refine wpAnyH_take (i := 6) (v := ?_) rfl (by kernel_rfl) (by kernel_rfl) (by kernel_rfl) (fun _ _ _ h => h) (Or.inl ⟨by rfl, ?_⟩) (by assumption) ?_
        rotate_left
        · intro u hSu
          go_simp
          with_reducible rfl
        simp only [Act.put, List.setIfInBounds_toArray, List.set_cons_zero, List.set_cons_succ, List.getElem_toArray, List.getElem_cons_zero, List.getElem_cons_succ]
        refine wpAnyH_take (i := 7) (v := ?_) rfl (by kernel_rfl) (by kernel_rfl) (by kernel_rfl) (fun _ _ _ h => h) (Or.inl ⟨by rfl, ?_⟩) (by assumption) ?_
        rotate_left
        · intro u hSu
          go_simp
          with_reducible rfl
        simp only [Act.put, List.setIfInBounds_toArray, List.set_cons_zero, List.set_cons_succ, List.getElem_toArray, List.getElem_cons_zero, List.getElem_cons_succ]
        refine wpAnyH_take (i := 8) (v := ?_) rfl (by kernel_rfl) (by kernel_rfl) (by kernel_rfl) (fun _ _ _ h => h) (Or.inl ⟨by rfl, ?_⟩) (by assumption) ?_
        rotate_left
        · intro u hSu
          go_simp
          with_reducible rfl
        simp only [Act.put, List.setIfInBounds_toArray, List.set_cons_zero, List.set_cons_succ, List.getElem_toArray, List.getElem_cons_zero, List.getElem_cons_succ]
        refine wpAnyH_take (i := 9) (v := ?_) rfl (by kernel_rfl) (by kernel_rfl) (by kernel_rfl) (fun _ _ _ h => h) (Or.inl ⟨by rfl, ?_⟩) (by assumption) ?_
        rotate_left
        · intro u hSu
          go_simp
          with_reducible rfl
        simp only [Act.put, List.setIfInBounds_toArray, List.set_cons_zero, List.set_cons_succ, List.getElem_toArray, List.getElem_cons_zero, List.getElem_cons_succ]
        refine wpAnyH_ready (rs := [4, 10]) (by kernel_rfl) (by simp) ?_
        refine AllReadyH.cons rfl (fun K hK => ?_) (AllReadyH.cons rfl (fun K hK => ?_) AllReadyH.nil)
        · go_simp
          refine hK.out _ _ (HS0.out) (fun hHeld => ?_)
          clear hK K
          refine wpAnyH_ready (rs := [10]) (by kernel_rfl) (by simp) ?_
          refine AllReadyH.cons rfl (fun K hK => ?_) AllReadyH.nil
          go_simp
          refine hK.out _ _ (HSa.out) (fun hHeld => ?_)
          clear hK K
          refine wpAnyH_ready (rs := [11]) (by kernel_rfl) (by simp) ?_
          refine AllReadyH.cons rfl (fun K hK => ?_) AllReadyH.nil
          refine step_append_at rfl (.tmp 48) (.tmp 54) 39 rfl B 3 i0 (.int .i64 0) 1 8 Try.underlying39 hi0 hz0 hz1 hz2 rfl (by decide) (.slice al nl cl) nl _ rfl own3 ⟨W.heap.size, 0, none⟩ 1 1 [.int .i64 ((n : Int) + 1)] rfl rfl (one_cell hx3) ?_ ?_ ?_ ?_ ?_
          · intro u hu; simp at hu; subst hu; rfl
          · unfold maxLen; omega
          · omega
          · simp; omega
          intro v4 W4 hown4 hgrow4 hwhere4
          obtain ⟨hS4, hS5, d4, f4, hv4, hfin⟩ := HFin.out v4 W4 hown4 hgrow4 hwhere4
          obtain ⟨a4, n4, c4, rfl⟩ := hv4
          refine hK.out _ _ hS4 (fun hHeld => ?_)
          clear hK K hown4 hgrow4 hwhere4
          refine wpAnyH_take (i := 12) (v := ?_) rfl (by kernel_rfl) (by kernel_rfl) (by kernel_rfl) (fun _ _ _ h => h) (Or.inl ⟨by rfl, ?_⟩) (by assumption) ?_
          rotate_left
          · intro u hSu
            go_simp
            with_reducible rfl
          simp only [Act.put, List.setIfInBounds_toArray, List.set_cons_zero, List.set_cons_succ, List.getElem_toArray, List.getElem_cons_zero, List.getElem_cons_succ]
          refine wpAnyH_take (i := 13) (v := ?_) rfl (by kernel_rfl) (by kernel_rfl) (by kernel_rfl) (fun _ _ _ h => h) (Or.inl ⟨by rfl, ?_⟩) (by assumption) ?_
          rotate_left
          · intro u hSu
            go_simp
            with_reducible rfl
          simp only [Act.put, List.setIfInBounds_toArray, List.set_cons_zero, List.set_cons_succ, List.getElem_toArray, List.getElem_cons_zero, List.getElem_cons_succ]
          refine wpAnyH_ready (rs := [14]) (by kernel_rfl) (by simp) ?_
          refine AllReadyH.cons rfl (fun K hK => ?_) AllReadyH.nil
          go_simp
          refine hK.out _ _ hS5 (fun hHeld => ?_)
          clear hK K
          refine wpAnyH_done (by kernel_rfl) ?_ _
          refine NoPanic.normal ?_
          have HE : Hid (RTo w B g V R.add P (W4.setCell ⟨g, 3, none⟩ (.slice a4 n4 c4))) := hfin
          clear hHeld hS4 hS5 hfin d4 f4 HFin
          generalize W4.setCell ⟨g, 3, none⟩ (.slice a4 n4 c4) = W5 at HE ⊢
          go_wp2_with fail
          go_ret
          exact .inr ⟨H64.out, rfl, HE.out⟩
        · go_simp
          refine hK.out _ _ (HSa.out) (fun hHeld => ?_)
          clear hK K
          refine wpAnyH_ready (rs := [4]) (by kernel_rfl) (by simp) ?_
          refine AllReadyH.cons rfl (fun K hK => ?_) AllReadyH.nil
          go_simp
          refine hK.out _ _ (HSa.out) (fun hHeld => ?_)
          clear hK K
          refine wpAnyH_ready (rs := [11]) (by kernel_rfl) (by simp) ?_
          refine AllReadyH.cons rfl (fun K hK => ?_) AllReadyH.nil
          refine step_append_at rfl (.tmp 48) (.tmp 54) 39 rfl B 3 i0 (.int .i64 0) 1 8 Try.underlying39 hi0 hz0 hz1 hz2 rfl (by decide) (.slice al nl cl) nl _ rfl own3 ⟨W.heap.size, 0, none⟩ 1 1 [.int .i64 ((n : Int) + 1)] rfl rfl (one_cell hx3) ?_ ?_ ?_ ?_ ?_
          · intro u hu; simp at hu; subst hu; rfl
          · unfold maxLen; omega
          · omega
          · simp; omega
          intro v4 W4 hown4 hgrow4 hwhere4
          obtain ⟨hS4, hS5, d4, f4, hv4, hfin⟩ := HFin.out v4 W4 hown4 hgrow4 hwhere4
          obtain ⟨a4, n4, c4, rfl⟩ := hv4
          refine hK.out _ _ hS4 (fun hHeld => ?_)
          clear hK K hown4 hgrow4 hwhere4
          refine wpAnyH_take (i := 12) (v := ?_) rfl (by kernel_rfl) (by kernel_rfl) (by kernel_rfl) (fun _ _ _ h => h) (Or.inl ⟨by rfl, ?_⟩) (by assumption) ?_
          rotate_left
          · intro u hSu
            go_simp
            with_reducible rfl
          simp only [Act.put, List.setIfInBounds_toArray, List.set_cons_zero, List.set_cons_succ, List.getElem_toArray, List.getElem_cons_zero, List.getElem_cons_succ]
          refine wpAnyH_take (i := 13) (v := ?_) rfl (by kernel_rfl) (by kernel_rfl) (by kernel_rfl) (fun _ _ _ h => h) (Or.inl ⟨by rfl, ?_⟩) (by assumption) ?_
          rotate_left
          · intro u hSu
            go_simp
            with_reducible rfl
          simp only [Act.put, List.setIfInBounds_toArray, List.set_cons_zero, List.set_cons_succ, List.getElem_toArray, List.getElem_cons_zero, List.getElem_cons_succ]
          refine wpAnyH_ready (rs := [14]) (by kernel_rfl) (by simp) ?_
          refine AllReadyH.cons rfl (fun K hK => ?_) AllReadyH.nil
          go_simp
          refine hK.out _ _ hS5 (fun hHeld => ?_)
          clear hK K
          refine wpAnyH_done (by kernel_rfl) ?_ _
          refine NoPanic.normal ?_
          have HE : Hid (RTo w B g V R.add P (W4.setCell ⟨g, 3, none⟩ (.slice a4 n4 c4))) := hfin
          clear hHeld hS4 hS5 hfin d4 f4 HFin
          generalize W4.setCell ⟨g, 3, none⟩ (.slice a4 n4 c4) = W5 at HE ⊢
          go_wp2_with fail
          go_ret
          exact .inr ⟨H64.out, rfl, HE.out⟩
end Go.Proofs.Ytjhhncbadkpbaaa
