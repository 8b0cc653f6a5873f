/-
  SchedRuns' walk.
-/
import Derived.Test.YtjhhncbadkpbaaaRun4
import Derived.Test.YtjhhncbadkpbaaaAwake
import Derived.Deep.CutBlock
import Derived.Deep.RegionHeld3
namespace Go.Proofs.Ytjhhncbadkpbaaa
open Go.RowKit
theorem eqlS_none' (g : Nat) (w : World) : (binOp .eql 22 (.pointer (some ⟨g, 0, none⟩)) (.pointer none)).run Try.prog w = .ok (.bool false) w := by
  have h : ∀ d : Nat, (Op.equalIn (d + 1) 22 (.pointer (some ⟨g, 0, none⟩)) (.pointer none)).run Try.prog w = .ok false w := fun d => by
    simp [Op.equalIn, run_underlying pointS]
  simp only [binOp]
  simp [Op.equal, Op.maxDepth, h]
theorem info43 : (Try.prog.info? 43).map (fun i => (i.zero, i.size, i.bytes)) = some (some (.slice none 0 0), 1, 24) := by kernel_rfl
set_option maxRecDepth 100000 in
set_option maxHeartbeats 16000000 in
theorem runs_at (a0 : Option Addr) (n0 c0 : Nat) (ps : List PV) (a1 : Option Addr) (n1 c1 : Nat) (zs : List Int) (w : World) (hl0 : ps.length = n0) (hr0 : RdPs w a0 ps) (hn0 : n0 ≤ c0) (hc0 : c0 ≤ 9223372036854775807) (hb0 : ∀ p ∈ ps, p.ln * 24 ≤ 140737488355328) (hl1 : zs.length = n1) (hr1 : RdK .i64 w a1 zs) (hn1 : n1 ≤ 9223372036854775807) (hw1 : ∀ z ∈ zs, (Lit.int .i64 z).wf = true) :
    Calls Try.prog 4 #[.slice a0 n0 c0, .slice a1 n1 c1] w fun r w' => r = .returned (.bool true) ∧ Below w.heap.size w w' := by
  obtain ⟨i43, hi43, hz43, hs43, hb43⟩ := info_parts info43
  obtain ⟨B, hB⟩ : ∃ B, B = w.heap.size := ⟨_, rfl⟩
  have HB : Hid (B = w.heap.size) := hB
  have cN := runStart w B (by omega)
  obtain ⟨g, hg⟩ : ∃ g, g = w.heap.size := ⟨_, rfl⟩
  obtain ⟨tb, htb⟩ : ∃ tb, tb = w.heap.size + 1 := ⟨_, rfl⟩
  obtain ⟨bb, hbb⟩ : ∃ bb, bb = w.heap.size + 2 := ⟨_, rfl⟩
  obtain ⟨s, hs⟩ : ∃ s, s = w.heap.size + 3 := ⟨_, rfl⟩
  rw [← hs, ← hbb, ← htb, ← hg] at cN
  have Hg : Hid (g = w.heap.size) := hg
  have Htb : Hid (tb = w.heap.size + 1) := htb
  have Hbb : Hid (bb = w.heap.size + 2) := hbb
  obtain ⟨m, hm⟩ : ∃ m, m = min n0 70 := ⟨_, rfl⟩
  have hm70 : m ≤ 70 := by omega
  have hmn : m ≤ n0 := by omega
  have HM : Hid (m = min n0 70) := hm
  have hmz : min (n0 : Int) 70 = (m : Int) := by omega
  have HP : Hid (∀ u : World, Below B w u → ∀ k (hk : k < m), ∃ b o, a0 = some ⟨b, o, none⟩ ∧ ∃ la ln lc, ∃ xs : List Do3, u.cell? ⟨b, o + k, none⟩ = some (.slice la ln lc) ∧ xs.length = ln ∧ ln * 24 ≤ 140737488355328 ∧ (∀ v : World, Below B w v → v.cell? ⟨b, o + k, none⟩ = some (.slice la ln lc) ∧ ∀ j (hj : j < xs.length), ∃ b' o', la = some ⟨b', o', none⟩ ∧ v.cell? ⟨b', o' + j * 3, none⟩ = some (.int .i64 xs[j].tell) ∧ v.cell? ⟨b', o' + j * 3 + 1, none⟩ = some (.int .i64 xs[j].wake) ∧ v.cell? ⟨b', o' + j * 3 + 2, none⟩ = some (.bool xs[j].inner))) := fun u hu k hk => by
    obtain ⟨b, o, rfl, hc⟩ := hr0 (by omega)
    obtain ⟨h1, h2, h3⟩ := hc k (by omega)
    have old : ∀ v : World, Below B w v → v.cell? ⟨b, o + k, none⟩ = some (.slice (ps[k]'(by omega)).la (ps[k]'(by omega)).ln (ps[k]'(by omega)).lc) := fun v hv => by
      rw [hv.cell (p := ⟨b, o + k, none⟩) (by rw [hB]; exact block_lt_of_cell h1)]; exact h1
    refine ⟨b, o, rfl, (ps[k]'(by omega)).la, (ps[k]'(by omega)).ln, (ps[k]'(by omega)).lc, (ps[k]'(by omega)).xs, old u hu, h2, hb0 _ (List.getElem_mem _), fun v hv => ⟨old v hv, fun j hj => ?_⟩⟩
    obtain ⟨b', o', e1, hc'⟩ := h3 (by omega)
    obtain ⟨y0, y1, y2⟩ := hc' j hj
    have hb' : b' < B := by rw [hB]; exact block_lt_of_cell y0
    refine ⟨b', o', e1, ?_, ?_, ?_⟩
    · rw [hv.cell (p := ⟨b', _, none⟩) hb']; exact y0
    · rw [hv.cell (p := ⟨b', _, none⟩) hb']; exact y1
    · rw [hv.cell (p := ⟨b', _, none⟩) hb']; exact y2
  have HZ : Hid (∀ u : World, Below B w u → ∀ k (hk : k < n1), ∃ b o z, a1 = some ⟨b, o, none⟩ ∧ u.cell? ⟨b, o + k, none⟩ = some (.int .i64 z) ∧ -9223372036854775808 ≤ z ∧ z ≤ 9223372036854775807) := fun u hu k hk => by
    obtain ⟨b, o, rfl, hc⟩ := hr1 (by omega)
    have h1 := hc k (by omega)
    have hwf := hw1 _ (List.getElem_mem (show k < zs.length by omega))
    refine ⟨b, o, zs[k]'(by omega), rfl, ?_, ?_⟩
    · rw [hu.cell (p := ⟨b, o + k, none⟩) (by rw [hB]; exact block_lt_of_cell h1), h1]
    · have := bounds_i64 hwf
      omega
  have hn1' : (n1 : Int) ≤ 9223372036854775807 := by omega
  have hn0' : (n0 : Int) ≤ 9223372036854775807 := by omega
  have hmc : m ≤ c0 := by omega
  have hen := eqlS_none' s
  clear hs htb hbb hg hB hr0 hr1 hw1 hl0 hl1 hm hb0
  unfold ptr at *
  go_enter Try.func4, Try.ntmps4
  go_wp2_with fail
  refine Calls.mono cN ?_
  rintro q w1 ⟨rfl, h1, b1⟩
  rw [← Hbb.out, ← Htb.out, ← Hg.out]
  have H1 : Hid (RunA w1 B s g tb bb 0) := h1
  have B1 : Hid (Below B w w1) := b1
  clear cN h1 b1
  go_wp2_with fail
  clear hmz
  go_loopw [9] (fun i u => ∃ k : Nat, k ≤ m ∧ i = .int .i64 (k : Int) ∧ RunA u B s g tb bb (min k 64) ∧ Below B w u) (fun i _ => m - (intOf i).toNat)
  case atStart => exact ⟨0, by omega, rfl, H1.out, B1.out⟩
  case round =>
    obtain ⟨k, hk, rfl, hA, hb⟩ := hrel
    obtain ⟨wa, hwa⟩ : ∃ wa, wa = wr := ⟨_, rfl⟩
    subst hwa
    have HA : Hid (RunA wa B s g tb bb (min k 64)) := hA
    have HBa : Hid (Below B w wa) := hb
    clear H1 B1 hA
    by_cases hlt : k < m
    · as_aux_lemma =>
      have hki : (k : Int) < (m : Int) := by omega
      obtain ⟨b, o, rfl, la, ln, lc, xs, x1, hxl, hln, hrd⟩ := HP.out wa hb k hlt
      have HRD : Hid (∀ v : World, Below B w v → v.cell? ⟨b, o + k, none⟩ = some (.slice la ln lc) ∧ ∀ j (hj : j < xs.length), ∃ b' o', la = some ⟨b', o', none⟩ ∧ v.cell? ⟨b', o' + j * 3, none⟩ = some (.int .i64 xs[j].tell) ∧ v.cell? ⟨b', o' + j * 3 + 1, none⟩ = some (.int .i64 xs[j].wake) ∧ v.cell? ⟨b', o' + j * 3 + 2, none⟩ = some (.bool xs[j].inner)) := hrd
      have hmk := make_do ln hln
      have hlnb : (ln : Int) ≤ 140737488355328 := by omega
      have HXL : Hid (xs.length = ln) := hxl
      have hD0 : DBox (wa.alloc (.cells (dosC (List.replicate ln do0)).toArray 45)) wa.heap.size (cur xs 0) := by rw [cur_zero, hxl]; exact Box.new _ _ _
      have hb0 : Below wa.heap.size wa (wa.alloc (.cells (dosC (List.replicate ln do0)).toArray 45)) := (Below.refl _ _).alloc (Nat.le_refl _) _
      obtain ⟨lg, hlg⟩ : ∃ lg, lg = wa.heap.size := ⟨_, rfl⟩
      rw [← hlg] at hD0
      have Hlg : Hid (lg = wa.heap.size) := hlg
      obtain ⟨wm, hwm⟩ : ∃ wm, wm = wa.alloc (.cells (dosC (List.replicate ln do0)).toArray 45) := ⟨_, rfl⟩
      have Hwm : Hid (wm = wa.alloc (.cells (dosC (List.replicate ln do0)).toArray 45)) := hwm
      rw [← hwm] at hD0 hb0
      have HD0 : Hid (DBox wm lg (cur xs 0)) := hD0
      have Hb0 : Hid (Below wa.heap.size wa wm) := hb0
      clear hrd hxl hD0 hb0 hlg hwm hb HP hln
      generalize (dosC (List.replicate ln do0)).toArray = Z45 at hmk Hwm
      go_upto_region 12 with fail
      rw [← Hwm.out, ← Hlg.out]
      clear hmk Hwm x1
      go_wp2_with fail
      go_loopw [49] (fun c u => ∃ j : Nat, j ≤ ln ∧ c = .int .i64 (j : Int) ∧ DBox u lg (cur xs j) ∧ Below wa.heap.size wa u) (fun c _ => ln - (intOf c).toNat)
      case atStart => exact ⟨0, by omega, rfl, HD0.out, Hb0.out⟩
      case round =>
        obtain ⟨j, hj, rfl, hD, hbu⟩ := hrel
        obtain ⟨wc, hwc⟩ : ∃ wc, wc = wr := ⟨_, rfl⟩
        subst hwc
        have HDc : Hid (DBox wc lg (cur xs j)) := hD
        have Hbc : Hid (Below wa.heap.size wa wc) := hbu
        clear HD0 Hb0
        by_cases hjl : j < ln
        · as_aux_lemma =>
          have hji : (j : Int) < (ln : Int) := by omega
          have hjx : j < xs.length := by rw [HXL.out]; exact hjl
          have hBc : Below B w wc := HBa.out.trans (hbu.mono HA.out.hB)
          obtain ⟨y1, hyj⟩ := HRD.out wc hBc
          obtain ⟨b', o', rfl, y2, y3, y4⟩ := hyj j hjx
          have hl := cur_len xs j (by omega)
          obtain ⟨z0, z1, z2⟩ := hD.at j (by omega)
          have f0 := Box.frozen hD (j * 3)
          have f1 := Box.frozen hD (j * 3 + 1)
          have f2 := Box.frozen hD (j * 3 + 2)
          have D2 := DBox.copy hjx hD
          have D3 := DBox.norm hjx D2
          obtain ⟨t, ht⟩ : ∃ t, t = xs[j].tell := ⟨_, rfl⟩
          obtain ⟨wk, hwk⟩ : ∃ wk, wk = xs[j].wake := ⟨_, rfl⟩
          obtain ⟨inn, hinn⟩ : ∃ inn, inn = xs[j].inner := ⟨_, rfl⟩
          rw [← ht] at y2 D2 D3
          rw [← hwk] at y3 D2 D3
          rw [← hinn] at y4 D2 D3
          generalize (cur xs j)[j].tell = t0 at z0
          generalize (cur xs j)[j].wake = t1 at z1
          generalize (cur xs j)[j].inner = t2 at z2
          have hlgw : wa.heap.size ≤ lg := by rw [Hlg.out]; exact Nat.le_refl _
          obtain ⟨wd, hwd⟩ : ∃ wd, wd = ((wc.setCell ⟨lg, j * 3, none⟩ (.int .i64 t)).setCell ⟨lg, j * 3 + 1, none⟩ (.int .i64 wk)).setCell ⟨lg, j * 3 + 2, none⟩ (.bool inn) := ⟨_, rfl⟩
          have Hwd : Hid (wd = ((wc.setCell ⟨lg, j * 3, none⟩ (.int .i64 t)).setCell ⟨lg, j * 3 + 1, none⟩ (.int .i64 wk)).setCell ⟨lg, j * 3 + 2, none⟩ (.bool inn)) := hwd
          rw [← hwd] at D2 D3
          have u0 : wd.cell? ⟨lg, j * 3, none⟩ = some (.int .i64 t) := by
            have h := (D2.at j (by simp; omega)).1
            rw [h]; simp [ht]
          have u1 : wd.frozen? ⟨lg, j * 3, none⟩ = false := Box.frozen D2 _
          have HD3 : Hid (DBox (wd.setCell ⟨lg, j * 3, none⟩ (.int .i64 (t % 7))) lg (cur xs (j + 1))) := D3
          have st1 : ∀ (v : World) (i : Nat) (x : Value), Below wa.heap.size wa v → Below wa.heap.size wa (v.setCell ⟨lg, i, none⟩ x) := fun v i x hv => by
            have gr := grown_store v lg i x
            exact hv.trans ⟨gr.os, gr.tape, gr.output, gr.size, fun q hq => gr.block q (by have := hv.size; omega) (by simp; omega)⟩
          have HB3 : Hid (Below wa.heap.size wa (wd.setCell ⟨lg, j * 3, none⟩ (.int .i64 (t % 7)))) := by
            rw [hwd]
            exact st1 _ _ _ (st1 _ _ _ (st1 _ _ _ (st1 _ _ _ hbu)))
          have cK := kitPick_at t 7 wd (by decide) (by decide)
          clear hD hbu hBc hyj hl D2 D3 ht hwk hinn hlgw hwd st1 HDc Hbc
          go_upto_region 16 with fail
          rw [← Hwd.out]
          clear Hwd y1 y2 y3 y4 z0 z1 z2 f0 f1 f2
          go_wp2_with fail
          refine Calls.mono cK ?_
          rintro e wx ⟨rfl, hwx⟩
          subst wx
          clear cK
          go_wp2_with fail
          go_roundw
          case rel => exact ⟨j + 1, by omega, by go_num, HD3.out, HB3.out⟩
          case measure => simp [intOf]; omega
        · have hjn : j = ln := by omega
          subst j
          have HD4 : Hid (DBox wc lg (xs.map nrm)) := by
            have h := hD
            rw [← HXL.out, cur_all] at h
            exact h
          have HA4 : Hid (RunA wc B s g tb bb (min k 64)) := HA.out.below hbu
          have HB4 : Hid (Below B w wc) := HBa.out.trans (hbu.mono HA.out.hB)
          clear hD hbu HDc Hbc HA HBa
          have eL : (xs.map nrm).length = ln := by rw [List.length_map]; exact HXL.out
          by_cases h64 : k < 64
          · as_aux_lemma =>
            have cA := HA4.out.add (by omega) (some ⟨lg, 0, none⟩) ln (xs.map nrm) (HD4.out.row B) (nrm_ok xs)
            have hmin : min k 64 = k := by omega
            rw [eL, hmin] at cA
            unfold tkC ptr at cA
            clear HD4 HA4 hmin eL
            go_wp2_with fail
            refine Calls.mono cA ?_
            rintro e w2 ⟨rfl, cB⟩
            clear cA
            go_wp2_with fail
            refine Calls.mono cB ?_
            rintro e w3 ⟨rfl, hP, bP⟩
            obtain ⟨as', cs', xst⟩ := hP.state
            obtain ⟨av, n, cv, xs', x0, f0, hnm, hBw, own1, hfin⟩ := hP.app
            simp only at own1 hfin
            have HFin : Hid (∀ v' w4, w4.ownsRow B 43 1 v' (n + 1) (xs' ++ [.slice (some ⟨lg, 0, none⟩) ln ln]) → (w3.alloc (.cells #[.slice (some ⟨lg, 0, none⟩) ln ln] 43)).grownBy w4 (Value.slice av n cv).ownBlock → (v'.ownBlock = (Value.slice av n cv).ownBlock ∨ v'.ownBlock = some (w3.alloc (.cells #[.slice (some ⟨lg, 0, none⟩) ln ln] 43)).heap.size) → (w4.cell? ⟨g, 0, none⟩ = some (.slice av n cv) ∧ w4.frozen? ⟨g, 0, none⟩ = false) ∧ RunA (w4.setCell ⟨g, 0, none⟩ v') B s g tb bb (k + 1) ∧ Below B w3 (w4.setCell ⟨g, 0, none⟩ v')) := hfin
            have HB5 : Hid (Below B w w3) := HB4.out.trans bP
            have hx1 := Box.new w3 #[.slice (some ⟨lg, 0, none⟩) ln ln] 43
            clear cB hfin bP hP HB4
            go_wp2_with (at_builtin; refine wpList_append_own_at _ rfl _ _ 38 rfl B 43 i43 (.slice none 0 0) 1 24 Try.underlying38 hi43 hz43 hs43 hb43 rfl (by decide) _ n _ rfl own1 ⟨w3.heap.size, 0, none⟩ 1 1 [.slice (some ⟨lg, 0, none⟩) ln ln] rfl rfl (one_cell hx1) ?c2 ?c3 ?c4 ?c5 ?_)
            case c2 => first | rfl | (intro u hu; simp at hu; subst hu; rfl)
            case c3 => unfold maxLen; omega
            case c4 => omega
            case c5 => first | omega | (simp; omega)
            intro v4 w4 ho hg _ hw
            obtain ⟨⟨x4, f4⟩, hA5, b5⟩ := HFin.out v4 w4 ho hg (by rcases hw with h1 | h1; exact .inl h1; exact .inr (by rw [h1]; simp))
            have HA6 : Hid (RunA (w4.setCell ⟨g, 0, none⟩ v4) B s g tb bb (k + 1)) := hA5
            have HB6 : Hid (Below B w (w4.setCell ⟨g, 0, none⟩ v4)) := HB5.out.trans b5
            obtain ⟨a4, c4, hv4⟩ := ownsRow_slice ho
            subst hv4
            clear ho hg hw hA5 b5 HFin own1 hx1 x0 f0 xst
            go_wp2_with fail
            go_roundw
            case rel => exact ⟨k + 1, by omega, by go_num, by rw [show min (k + 1) 64 = k + 1 by omega]; exact HA6.out, HB6.out⟩
            case measure => simp [intOf]; omega
          · as_aux_lemma =>
            have hmin : min k 64 = 64 := by omega
            rw [hmin] at HA4
            have bA : Below wc.heap.size wc (wc.alloc (.cells #[.pointer (some ⟨s, 0, none⟩), .slice (some ⟨lg, 0, none⟩) ln ln, .int .i64 0, .pointer (some ⟨tb, 0, none⟩), .pointer (some ⟨bb, 0, none⟩)] 51)) := (Below.refl _ _).alloc (Nat.le_refl _) _
            have HA5 : Hid (RunA (wc.alloc (.cells #[.pointer (some ⟨s, 0, none⟩), .slice (some ⟨lg, 0, none⟩) ln ln, .int .i64 0, .pointer (some ⟨tb, 0, none⟩), .pointer (some ⟨bb, 0, none⟩)] 51)) B s g tb bb 64) := HA4.out.below bA
            have HB5 : Hid (Below B w (wc.alloc (.cells #[.pointer (some ⟨s, 0, none⟩), .slice (some ⟨lg, 0, none⟩) ln ln, .int .i64 0, .pointer (some ⟨tb, 0, none⟩), .pointer (some ⟨bb, 0, none⟩)] 51))) := HB4.out.trans (bA.mono HA4.out.hB)
            have cA := HA5.out.full rfl 47 (.pointer (some ⟨wc.heap.size, 0, none⟩))
            unfold ptr at cA
            clear HD4 HA4 HB4 bA hmin eL
            go_wp2_with fail
            refine Calls.mono cA ?_
            rintro e w2 ⟨rfl, hw2, cB⟩
            subst w2
            clear cA
            go_wp2_with fail
            refine Calls.mono cB ?_
            rintro e w3 ⟨rfl, hw3⟩
            subst w3
            clear cB
            go_wp2_with fail
            go_roundw
            case rel => exact ⟨k + 1, by omega, by go_num, by rw [show min (k + 1) 64 = 64 by omega]; exact HA5.out, HB5.out⟩
            case measure => simp [intOf]; omega
    · have hkm : k = m := by omega
      subst k
      clear hb HP
      obtain ⟨M, hM⟩ : ∃ M, M = min m 64 := ⟨_, rfl⟩
      have hM64 : M ≤ 64 := by omega
      rw [← hM] at HA
      have HX : Hid (RunX wa B s g tb bb M 0) := HA.out.x
      clear hM HA
      go_wp2_with fail
      go_loopw [15] (fun i u => ∃ k : Nat, k ≤ 300 ∧ k ≤ n1 ∧ i = .int .i64 (k : Int) ∧ RunX u B s g tb bb M k ∧ Below B w u) (fun i _ => 300 - (intOf i).toNat)
      case atStart => exact ⟨0, by omega, by omega, rfl, HX.out, HBa.out⟩
      case round =>
        obtain ⟨k, hk300, hkn, rfl, hX, hbu⟩ := hrel
        obtain ⟨wb, hwb⟩ : ∃ wb, wb = wr := ⟨_, rfl⟩
        subst hwb
        have HXb : Hid (RunX wb B s g tb bb M k) := hX
        have HBb : Hid (Below B w wb) := hbu
        clear HX HBa
        by_cases hgo : k < n1 ∧ k < 300
        · as_aux_lemma =>
          obtain ⟨hg1, hg2⟩ := hgo
          have hi1 : (k : Int) < (n1 : Int) := by omega
          have hi2 : (k : Int) < 300 := by omega
          obtain ⟨b, o, z, rfl, xz, hz1, hz2⟩ := HZ.out wb hbu k hg1
          clear hX hbu
          go_upto_if 135 with fail
          go_cut [] from 134 to 174 (fun u => RunX u B s g tb bb M (k + 1) ∧ Below B w u)
          case first =>
            by_cases hz : z < 0
            · as_aux_lemma =>
              have cW := HXb.out.wake (by omega) (-1 - z)
              unfold ptr at cW
              have hwz : IntKind.i64.wrap (-1 - z) = -1 - z := IntWalk.i64_in _ (by omega)
              go_wp2_with fail
              refine Calls.mono cW ?_
              rintro e v1 ⟨rb, rfl, cW2⟩
              clear cW
              go_wp2_with fail
              refine Calls.mono cW2 ?_
              rintro e v2 ⟨rfl, hX2, b2⟩
              have HF : Hid (RunX v2 B s g tb bb M (k + 1) ∧ Below B w v2) := ⟨by obtain ⟨S, R, V, tv, told, K, P, h, h1, h2, h3⟩ := hX2; exact ⟨S, R, V, tv, told, K, P, h, h1, by omega, by omega⟩, HBb.out.trans b2⟩
              clear cW2 hX2 b2
              go_wp2_with fail
              go_meet
              case rel => exact HF.out
            · as_aux_lemma =>
              obtain ⟨p, rfl⟩ : ∃ p : Nat, z = (p : Int) := ⟨z.toNat, by omega⟩
              have cP := HXb.out.pick (by omega) (by omega) p (by omega)
              unfold ptr at cP
              clear hz
              go_wp2_with fail
              refine Calls.mono cP ?_
              rintro e v1 ⟨Z, Y, bo, hZ, hY, rfl, cP2⟩
              have hY1 : (Y : Int) < 200 := by omega
              have hZ1 : (Z : Int) < 1001 := by omega
              clear cP
              go_wp2_with fail
              refine Calls.mono cP2 ?_
              rintro e v2 ⟨rfl, hX2, b2⟩
              have HF : Hid (RunX v2 B s g tb bb M (k + 1) ∧ Below B w v2) := ⟨hX2, HBb.out.trans b2⟩
              clear cP2 hX2 b2
              go_wp2_with fail
              go_meet
              case rel => exact HF.out
          case rest =>
            obtain ⟨hX2, hB2⟩ := hcut
            have HX2 : Hid (RunX wc B s g tb bb M (k + 1)) := hX2
            have HB2 : Hid (Below B w wc) := hB2
            obtain ⟨S, R, V, tv, told, hA⟩ := hX2.asks (by omega)
            clear hX2 hB2 xz HXb HBb
            go_upto_region 35 with fail
            go_cut [203] from 175 to 202 (fun v u => v = .bool false ∧ RunX u B s g tb bb M (k + 1) ∧ Below B w u)
            case first =>
              as_aux_lemma =>
              have bD := (Below.refl wc.heap.size wc).drew
              have hA0 := hA.below bD
              have HA0 : Hid (Asks wc.drew B s g tb bb M S R V tv told) := hA0
              obtain ⟨al, cl, at', ct, av, cv, e1, e2, e3, qq1, qq2, qq3, qq4⟩ := hA.cells
              have Hvl : Hid (V.vl = .slice al S.L.length cl) := e1
              have HC : Hid (∀ u, Below wc.drew.heap.size wc.drew u → u.cell? ⟨bb, 0, none⟩ = some (.bool false) ∧ u.cell? ⟨g, 3, none⟩ = some (.slice al S.L.length cl) ∧ u.cell? ⟨g, 4, none⟩ = some (.slice at' told.length ct) ∧ u.cell? ⟨tb, 0, none⟩ = some (.slice av told.length cv)) := fun u hu => by
                refine ⟨?_, ?_, ?_, ?_⟩
                · rw [hu.cell (p := ⟨bb, 0, none⟩) (block_lt_of_cell (w := wc.drew) qq1)]; exact qq1
                · rw [hu.cell (p := ⟨g, 3, none⟩) (block_lt_of_cell (w := wc.drew) qq2)]; exact qq2
                · rw [hu.cell (p := ⟨g, 4, none⟩) (block_lt_of_cell (w := wc.drew) qq3)]; exact qq3
                · rw [hu.cell (p := ⟨tb, 0, none⟩) (block_lt_of_cell (w := wc.drew) qq4)]; exact qq4
              have hLl := hA0.Ll
              have hGM := hA0.G
              have C1 : Hid (Calls Try.prog 18 #[.pointer (some ⟨s, 0, none⟩)] wc.drew fun r w' => ∃ v', r = .returned v' ∧ w'.ownsRow wc.drew.heap.size 3 1 v' S.L.length (ics (S.L.map (· + 1))) ∧ Below wc.drew.heap.size wc.drew w') := ready_at hA0.is (by omega) (by omega)
              have C3 : Hid (∀ u, Asks u B s g tb bb M S R V tv told → Calls Try.prog 19 #[.pointer (some ⟨s, 0, none⟩)] u fun r w' => ∃ v', r = .returned v' ∧ w'.ownsRow u.heap.size 3 1 v' S.blk.length (ics S.blk) ∧ Below u.heap.size u w') := fun u hu => blocked_at hu.is hu.good.lt (by have := hu.G; omega)
              have C4 : Hid (∀ u, Asks u B s g tb bb M S R V tv told → Calls Try.prog 20 #[.pointer (some ⟨g, 0, none⟩)] u fun r w' => ∃ v', r = .returned v' ∧ w'.ownsRow u.heap.size 3 1 v' S.blk.length (ics S.blk) ∧ Below u.heap.size u w') := fun u hu => hu.rblocked (by omega)
              have HN1 : Hid (S.L.length < 1000000 ∧ S.blk.length < 1000000) := ⟨by omega, by omega⟩
              have C2 : Hid (∀ u v', Asks u B s g tb bb M S R V tv told → u.ownsRow wc.drew.heap.size 3 1 v' S.L.length (ics (S.L.map (· + 1))) → Calls Try.prog 17 #[v', .slice al S.L.length cl] u fun r w' => r = .returned (.bool true) ∧ ∃ q, w' = u.drewN q) := fun u v' hu ho => by
                have h1 := hu.line
                rw [Hvl.out] at h1
                exact same_ints (l := S.L.map (· + 1)) (by rw [List.length_map]; exact ho) h1 (by rw [List.length_map]; exact HN1.out.1)
              have q01 : wc.drew.cell? ⟨bb, 0, none⟩ = some (.bool false) := qq1
              have q02 : wc.drew.cell? ⟨g, 3, none⟩ = some (.slice al S.L.length cl) := qq2
              have q03 : wc.drew.cell? ⟨g, 4, none⟩ = some (.slice at' told.length ct) := qq3
              have q04 : wc.drew.cell? ⟨tb, 0, none⟩ = some (.slice av told.length cv) := qq4
              have HX3 : Hid (RunX wc.drew B s g tb bb M (k + 1)) := HX2.out.below bD
              have HB3 : Hid (Below B w wc.drew) := HB2.out.drew
              clear hA hA0 bD e1 e2 e3 hLl hGM HX2 HB2
              generalize S.L.length = NL at *
              generalize told.length = NT at *
              go_region_held3 (fun u => u.cell? ⟨bb, 0, none⟩ = some (.bool false) ∧ u.cell? ⟨g, 3, none⟩ = some (.slice al NL cl) ∧ u.cell? ⟨g, 4, none⟩ = some (.slice at' NT ct) ∧ u.cell? ⟨tb, 0, none⟩ = some (.slice av NT cv))
                (first | with_reducible exact HC.out _ b6 | with_reducible exact HC.out _ b5 | with_reducible exact HC.out _ b4 | with_reducible exact HC.out _ b3 | with_reducible exact HC.out _ b2 | with_reducible exact ⟨q01, q02, q03, q04⟩ | with_reducible exact ⟨qq1, qq2, qq3, qq4⟩)
                (first
                  | (go_at_call 18; (with_reducible refine Calls.mono C1.out ?_); rintro e v2 ⟨s2, rfl, o2, b2⟩; have A2 : Hid (Asks v2 B s g tb bb M S R V tv told) := HA0.out.below b2; have HB2 : Hid (Below wc.drew.heap.size wc.drew v2) := b2)
                  | (go_at_call 19; (with_reducible refine Calls.mono (C3.out _ A3.out) ?_); rintro e v4 ⟨s4, rfl, o4, c4⟩; have A4 : Hid (Asks v4 B s g tb bb M S R V tv told) := A3.out.below c4; have b4 : Below wc.drew.heap.size wc.drew v4 := b3.trans (c4.mono b3.size))
                  | (go_at_call 20; (with_reducible refine Calls.mono (C4.out _ A4.out) ?_); rintro e v5 ⟨s5, rfl, o5, c5⟩; have A5 : Hid (Asks v5 B s g tb bb M S R V tv told) := A4.out.below c5; have b5 : Below wc.drew.heap.size wc.drew v5 := b4.trans (c5.mono b4.size))
                  | (go_at_call 17; (with_reducible refine Calls.mono (C2.out _ _ A2.out o2) ?_); rintro e v3 ⟨rfl, n3, rfl⟩; have A3 : Hid (Asks (v2.drewN n3) B s g tb bb M S R V tv told) := A2.out.below (Below.drewN (Below.refl _ _) n3); have b3 : Below wc.drew.heap.size wc.drew (v2.drewN n3) := Below.drewN b2 n3)
                  | (go_at_call 17; (with_reducible refine Calls.mono (same_ints (ownsRow_kt (p := fun _ => True) o4 (Kt.below c5) trivial) o5 HN1.out.2) ?_); rintro e v6 ⟨rfl, n6, rfl⟩; have b6 : Below wc.drew.heap.size wc.drew (v5.drewN n6) := Below.drewN b5 n6))
              have HF : Hid (RunX (v5.drewN n6) B s g tb bb M (k + 1) ∧ Below B w (v5.drewN n6)) := ⟨HX3.out.below b6, HB3.out.trans (b6.mono HX3.out.hB)⟩
              clear o2 o4 o5 b2 b3 b4 b5 b6 c4 c5 A2 A3 A4 A5 q01 q02 q03 q04 qq1 qq2 qq3 qq4
              go_wp2_with fail
              go_meet
              case rel => exact ⟨rfl, HF.out.1, HF.out.2⟩
            case rest =>
              clear hA
              obtain ⟨rfl, hX3, hB3⟩ := hcut
              have HX3 : Hid (RunX wc B s g tb bb M (k + 1)) := hX3
              have HB3 : Hid (Below B w wc) := hB3
              clear hX3 hB3 HX2 HB2
              go_wp2_with fail
              go_roundw
              case rel => exact ⟨k + 1, by omega, by omega, by go_num, HX3.out, HB3.out⟩
              case measure => simp [intOf]; omega
        · obtain ⟨S, R, V, tv, told, hA⟩ := hX.asks hk300
          have HA : Hid (Asks wb B s g tb bb M S R V tv told) := hA
          clear hX HXb HZ
          obtain ⟨NT, hNT⟩ : ∃ NT, NT = told.length := ⟨_, rfl⟩
          have hNT3 : NT ≤ 300 := by obtain ⟨N, _, h2, h3⟩ := hA.nl; omega
          have HNT : Hid (NT = told.length) := hNT
          clear hA hbu hNT
          by_cases hg : (k : Int) < (n1 : Int)
          · have hk2 : k = 300 := by omega
            subst k
            as_aux_lemma =>
            go_upto_region 37 with fail
            have hcl : ∃ av cv, wb.cell? ⟨tb, 0, none⟩ = some (.slice av NT cv) := by
              obtain ⟨al, cl, at', ct, av, cv, e1, e2, e3, qq1, qq2, qq3, qq4⟩ := HA.out.cells
              exact ⟨av, cv, by rw [HNT.out]; exact qq4⟩
            obtain ⟨tav, tcv, htv⟩ := hcl
            go_wp2_with fail
            go_loopw [23] (fun c u => ∃ j q : Nat, j ≤ NT ∧ c = .int .i64 (j : Int) ∧ u = wb.drewN q) (fun c _ => NT - (intOf c).toNat)
            case atStart => exact ⟨0, 0, by omega, rfl, rfl⟩
            case round =>
              obtain ⟨j, q, hj, rfl, hwq⟩ := hrel
              obtain ⟨wq, hwq2⟩ : ∃ wq, wq = wr := ⟨_, rfl⟩
              subst hwq2
              have HQ : Hid (wq = wb.drewN q) := hwq
              have hAq : Asks wq B s g tb bb M S R V tv told := by rw [hwq]; exact HA.out.below (Below.drewN (Below.refl _ _) q)
              have htq : wq.cell? ⟨tb, 0, none⟩ = some (.slice tav NT tcv) := by rw [hwq]; exact htv
              clear hwq
              by_cases hjl : j < NT
              · have hji : (j : Int) < (NT : Int) := by omega
                obtain ⟨p, cp, p', cp', bo, e1, e2, y1, y2⟩ := hAq.told j (by rw [← HNT.out]; exact hjl)
                obtain ⟨al, cl, at', ct, av, cv, f1, f2, f3, qq1, qq2, qq3, qq4⟩ := hAq.cells
                rw [← f3, e1] at qq4
                rw [← f2, e2] at qq3
                rw [← HNT.out] at qq3 qq4
                clear hAq e1 e2 f1 f2 f3 qq1 qq2 htq
                go_wp2_with fail
                go_quiet (fail)
                go_wp2_with fail
                go_roundw
                case rel => exact ⟨j + 1, q + nq, by omega, by go_num, by rw [HQ.out, World.drewN_drewN]⟩
                case measure => simp [intOf]; omega
              · have hjn : j = NT := by omega
                subst j
                obtain ⟨la, lc, hlen⟩ := hAq.len
                clear hAq htv
                go_upto_region 42 with fail
                clear htq
                go_wp2_with fail
                go_loopw [24] (fun c u => ∃ j q : Nat, j ≤ M ∧ c = .int .i64 (j : Int) ∧ u = wb.drewN q) (fun c _ => M - (intOf c).toNat)
                case atStart => exact ⟨0, q, by omega, rfl, HQ.out⟩
                case round =>
                  obtain ⟨j, q2, hj2, rfl, hwq⟩ := hrel
                  obtain ⟨wp, hwp⟩ : ∃ wp, wp = wr := ⟨_, rfl⟩
                  subst hwp
                  have HP2 : Hid (wp = wb.drewN q2) := hwq
                  have hAq : Asks wp B s g tb bb M S R V tv told := by rw [hwq]; exact HA.out.below (Below.drewN (Below.refl _ _) q2)
                  clear hwq
                  by_cases hjM : j < M
                  · have hjMi : (j : Int) < (M : Int) := by omega
                    have hA1 := hAq.below (Below.refl wp.heap.size wp).drew
                    obtain ⟨p, cp, p', cp', st, n, hst, hn3, y1, y2, y3, y4, C1, C2⟩ := hA1.stat (by omega) j hjM
                    obtain ⟨Zj, hZj⟩ : ∃ Zj : Int, Zj = ((j + 1 : Nat) : Int) := ⟨_, rfl⟩
                    have hZ2 : (j : Int) + 1 = Zj := by omega
                    have hwj : IntKind.i64.wrap ((j : Int) + 1) = (j : Int) + 1 := IntWalk.i64_in _ (by omega)
                    have hst1 : (st : Int) < 200 := by omega
                    have hws : IntKind.i64.wrap (st : Int) = (st : Int) := IntWalk.i64_in _ (by omega)
                    rw [show ((j + 1 : Nat) : Int) = (j : Int) + 1 by omega] at C1 C2
                    unfold ptr at C1 C2
                    have D1 : Hid (Calls Try.prog 21 #[.pointer (some ⟨s, 0, none⟩), .int .i64 ((j : Int) + 1)] wp.drew fun r w' => r = .returned (.int .u8 (st : Int)) ∧ w' = wp.drew) := C1
                    have D2 : Hid (Calls Try.prog 22 #[.pointer (some ⟨s, 0, none⟩), .int .i64 ((j : Int) + 1)] wp.drew fun r w' => r = .returned (.int .i64 (n : Int)) ∧ w' = wp.drew) := C2
                    have z1 : wp.cell? ⟨g, 1, none⟩ = some (.slice (some ⟨p, 0, none⟩) M cp) := y1
                    have z2 : wp.cell? ⟨g, 2, none⟩ = some (.slice (some ⟨p', 0, none⟩) M cp') := y2
                    have z3 : wp.cell? ⟨p, j, none⟩ = some (.int .i64 (st : Int)) := y3
                    have z4 : wp.cell? ⟨p', j, none⟩ = some (.int .i64 (n : Int)) := y4
                    clear hAq hA1 C1 C2 hZ2 hZj
                    go_upto_region 45 with fail
                    go_region_held3 (fun u => u.cell? ⟨g, 1, none⟩ = some (.slice (some ⟨p, 0, none⟩) M cp) ∧ u.cell? ⟨g, 2, none⟩ = some (.slice (some ⟨p', 0, none⟩) M cp') ∧ u.cell? ⟨p, j, none⟩ = some (.int .i64 (st : Int)) ∧ u.cell? ⟨p', j, none⟩ = some (.int .i64 (n : Int)))
                      (first | with_reducible exact ⟨y1, y2, y3, y4⟩ | with_reducible exact ⟨z1, z2, z3, z4⟩)
                      (first
                        | (go_at_call 21; (with_reducible refine Calls.mono D1.out ?_); rintro e v1 ⟨rfl, hv1⟩; subst hv1)
                        | (go_at_call 22; (with_reducible refine Calls.mono D2.out ?_); rintro e v2 ⟨rfl, hv2⟩; subst hv2))
                    clear y1 y2 y3 y4 z1 z2 z3 z4
                    go_wp2_with fail
                    go_roundw
                    case rel => exact ⟨j + 1, q2 + 1, by omega, by go_num, by rw [HP2.out, ← World.drewN_drewN]; rfl⟩
                    case measure => simp [intOf]; omega
                  · have hjm : j = M := by omega
                    subst j
                    obtain ⟨la2, lc2, hlen2⟩ := hAq.len
                    have N1 := (hAq.none 0 (by omega)).1
                    have N2 := (hAq.none ((M : Int) + 1) (by omega)).1
                    have N3 := (hAq.none (-1) (by omega)).2
                    have cA := awake_at wp
                    have HBf : Hid (Below B w wp) := by rw [HP2.out]; exact Below.drewN HBb.out q2
                    have hBf := hAq.hB
                    have hwM : IntKind.i64.wrap ((M : Int) + 1) = (M : Int) + 1 := IntWalk.i64_in _ (by omega)
                    unfold ptr at N1 N2 N3
                    clear hAq
                    go_wp2_with fail
                    refine Calls.mono N1 ?_
                    rintro e wx ⟨rfl, hwx⟩
                    subst wx
                    go_wp2_with fail
                    refine Calls.mono N2 ?_
                    rintro e wx ⟨rfl, hwx⟩
                    subst wx
                    go_wp2_with fail
                    refine Calls.mono N3 ?_
                    rintro e wx ⟨rfl, hwx⟩
                    subst wx
                    go_wp2_with fail
                    refine Calls.mono cA ?_
                    rintro e wx ⟨rfl, bx⟩
                    have HF : Hid (Below B w wx) := HBf.out.trans (bx.mono hBf)
                    clear N1 N2 N3 cA bx
                    go_wp2_with fail
                    go_ret
                    exact ⟨rfl, by rw [← HB.out]; exact HF.out⟩
          · as_aux_lemma =>
            go_upto_region 37 with fail
            have hcl : ∃ av cv, wb.cell? ⟨tb, 0, none⟩ = some (.slice av NT cv) := by
              obtain ⟨al, cl, at', ct, av, cv, e1, e2, e3, qq1, qq2, qq3, qq4⟩ := HA.out.cells
              exact ⟨av, cv, by rw [HNT.out]; exact qq4⟩
            obtain ⟨tav, tcv, htv⟩ := hcl
            go_wp2_with fail
            go_loopw [23] (fun c u => ∃ j q : Nat, j ≤ NT ∧ c = .int .i64 (j : Int) ∧ u = wb.drewN q) (fun c _ => NT - (intOf c).toNat)
            case atStart => exact ⟨0, 0, by omega, rfl, rfl⟩
            case round =>
              obtain ⟨j, q, hj, rfl, hwq⟩ := hrel
              obtain ⟨wq, hwq2⟩ : ∃ wq, wq = wr := ⟨_, rfl⟩
              subst hwq2
              have HQ : Hid (wq = wb.drewN q) := hwq
              have hAq : Asks wq B s g tb bb M S R V tv told := by rw [hwq]; exact HA.out.below (Below.drewN (Below.refl _ _) q)
              have htq : wq.cell? ⟨tb, 0, none⟩ = some (.slice tav NT tcv) := by rw [hwq]; exact htv
              clear hwq
              by_cases hjl : j < NT
              · have hji : (j : Int) < (NT : Int) := by omega
                obtain ⟨p, cp, p', cp', bo, e1, e2, y1, y2⟩ := hAq.told j (by rw [← HNT.out]; exact hjl)
                obtain ⟨al, cl, at', ct, av, cv, f1, f2, f3, qq1, qq2, qq3, qq4⟩ := hAq.cells
                rw [← f3, e1] at qq4
                rw [← f2, e2] at qq3
                rw [← HNT.out] at qq3 qq4
                clear hAq e1 e2 f1 f2 f3 qq1 qq2 htq
                go_wp2_with fail
                go_quiet (fail)
                go_wp2_with fail
                go_roundw
                case rel => exact ⟨j + 1, q + nq, by omega, by go_num, by rw [HQ.out, World.drewN_drewN]⟩
                case measure => simp [intOf]; omega
              · have hjn : j = NT := by omega
                subst j
                obtain ⟨la, lc, hlen⟩ := hAq.len
                clear hAq htv
                go_upto_region 42 with fail
                clear htq
                go_wp2_with fail
                go_loopw [24] (fun c u => ∃ j q : Nat, j ≤ M ∧ c = .int .i64 (j : Int) ∧ u = wb.drewN q) (fun c _ => M - (intOf c).toNat)
                case atStart => exact ⟨0, q, by omega, rfl, HQ.out⟩
                case round =>
                  obtain ⟨j, q2, hj2, rfl, hwq⟩ := hrel
                  obtain ⟨wp, hwp⟩ : ∃ wp, wp = wr := ⟨_, rfl⟩
                  subst hwp
                  have HP2 : Hid (wp = wb.drewN q2) := hwq
                  have hAq : Asks wp B s g tb bb M S R V tv told := by rw [hwq]; exact HA.out.below (Below.drewN (Below.refl _ _) q2)
                  clear hwq
                  by_cases hjM : j < M
                  · have hjMi : (j : Int) < (M : Int) := by omega
                    have hA1 := hAq.below (Below.refl wp.heap.size wp).drew
                    obtain ⟨p, cp, p', cp', st, n, hst, hn3, y1, y2, y3, y4, C1, C2⟩ := hA1.stat (by omega) j hjM
                    obtain ⟨Zj, hZj⟩ : ∃ Zj : Int, Zj = ((j + 1 : Nat) : Int) := ⟨_, rfl⟩
                    have hZ2 : (j : Int) + 1 = Zj := by omega
                    have hwj : IntKind.i64.wrap ((j : Int) + 1) = (j : Int) + 1 := IntWalk.i64_in _ (by omega)
                    have hst1 : (st : Int) < 200 := by omega
                    have hws : IntKind.i64.wrap (st : Int) = (st : Int) := IntWalk.i64_in _ (by omega)
                    rw [show ((j + 1 : Nat) : Int) = (j : Int) + 1 by omega] at C1 C2
                    unfold ptr at C1 C2
                    have D1 : Hid (Calls Try.prog 21 #[.pointer (some ⟨s, 0, none⟩), .int .i64 ((j : Int) + 1)] wp.drew fun r w' => r = .returned (.int .u8 (st : Int)) ∧ w' = wp.drew) := C1
                    have D2 : Hid (Calls Try.prog 22 #[.pointer (some ⟨s, 0, none⟩), .int .i64 ((j : Int) + 1)] wp.drew fun r w' => r = .returned (.int .i64 (n : Int)) ∧ w' = wp.drew) := C2
                    have z1 : wp.cell? ⟨g, 1, none⟩ = some (.slice (some ⟨p, 0, none⟩) M cp) := y1
                    have z2 : wp.cell? ⟨g, 2, none⟩ = some (.slice (some ⟨p', 0, none⟩) M cp') := y2
                    have z3 : wp.cell? ⟨p, j, none⟩ = some (.int .i64 (st : Int)) := y3
                    have z4 : wp.cell? ⟨p', j, none⟩ = some (.int .i64 (n : Int)) := y4
                    clear hAq hA1 C1 C2 hZ2 hZj
                    go_upto_region 45 with fail
                    go_region_held3 (fun u => u.cell? ⟨g, 1, none⟩ = some (.slice (some ⟨p, 0, none⟩) M cp) ∧ u.cell? ⟨g, 2, none⟩ = some (.slice (some ⟨p', 0, none⟩) M cp') ∧ u.cell? ⟨p, j, none⟩ = some (.int .i64 (st : Int)) ∧ u.cell? ⟨p', j, none⟩ = some (.int .i64 (n : Int)))
                      (first | with_reducible exact ⟨y1, y2, y3, y4⟩ | with_reducible exact ⟨z1, z2, z3, z4⟩)
                      (first
                        | (go_at_call 21; (with_reducible refine Calls.mono D1.out ?_); rintro e v1 ⟨rfl, hv1⟩; subst hv1)
                        | (go_at_call 22; (with_reducible refine Calls.mono D2.out ?_); rintro e v2 ⟨rfl, hv2⟩; subst hv2))
                    clear y1 y2 y3 y4 z1 z2 z3 z4
                    go_wp2_with fail
                    go_roundw
                    case rel => exact ⟨j + 1, q2 + 1, by omega, by go_num, by rw [HP2.out, ← World.drewN_drewN]; rfl⟩
                    case measure => simp [intOf]; omega
                  · have hjm : j = M := by omega
                    subst j
                    obtain ⟨la2, lc2, hlen2⟩ := hAq.len
                    have N1 := (hAq.none 0 (by omega)).1
                    have N2 := (hAq.none ((M : Int) + 1) (by omega)).1
                    have N3 := (hAq.none (-1) (by omega)).2
                    have cA := awake_at wp
                    have HBf : Hid (Below B w wp) := by rw [HP2.out]; exact Below.drewN HBb.out q2
                    have hBf := hAq.hB
                    have hwM : IntKind.i64.wrap ((M : Int) + 1) = (M : Int) + 1 := IntWalk.i64_in _ (by omega)
                    unfold ptr at N1 N2 N3
                    clear hAq
                    go_wp2_with fail
                    refine Calls.mono N1 ?_
                    rintro e wx ⟨rfl, hwx⟩
                    subst wx
                    go_wp2_with fail
                    refine Calls.mono N2 ?_
                    rintro e wx ⟨rfl, hwx⟩
                    subst wx
                    go_wp2_with fail
                    refine Calls.mono N3 ?_
                    rintro e wx ⟨rfl, hwx⟩
                    subst wx
                    go_wp2_with fail
                    refine Calls.mono cA ?_
                    rintro e wx ⟨rfl, bx⟩
                    have HF : Hid (Below B w wx) := HBf.out.trans (bx.mono hBf)
                    clear N1 N2 N3 cA bx
                    go_wp2_with fail
                    go_ret
                    exact ⟨rfl, by rw [← HB.out]; exact HF.out⟩
end Go.Proofs.Ytjhhncbadkpbaaa
