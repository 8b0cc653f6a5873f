/-
  The steps of a transaction's end are made.
-/
import Derived.Test.YtlbjalodjcajfaaGreatRising
import Derived.Test.YtlbjalodjcajfaaGreatEnx
import Derived.Deep.Cut
import Derived.Deep.CutRange
import Derived.Deep.LoopGhost
namespace Go.Proofs.YtlbjalodjcajfaaGreat
open Go.RowKit Go.Sort Go.Maps
set_option maxRecDepth 100000 in
set_option maxHeartbeats 4000000 in
theorem end_at {w : World} {B g m s : Nat} {bb : Int} {S : SS En} {P : Nat → Prop} (hx : Box w g (tcells g m s bb 1) 63) (hs : IsS ag 93 91 w B s S P) : Calls Tryz.prog 32 #[ptr g] w fun r w' => ∃ lv, r = .returned lv ∧ LeftAt w' (fun x => w.heap.size ≤ x ∧ x < w'.heap.size) g lv (ends S) ∧ Below w.heap.size w w' := by
  obtain ⟨i0, hi0, hz0, hz1, hz2⟩ := info_parts infoF
  have hb0 := Below.alloc (Below.refl w.heap.size w) (Nat.le_refl _) (.cells #[ptr g] 30)
  have hS1 : ∀ u, Below w.heap.size w u → IsS ag 93 91 u B s S P := fun u hu => hs.below hu
  have HC : Hid (∀ u, Below w.heap.size w u → u.cell? ⟨g, 4, none⟩ = some (.pointer (some ⟨s, 0, none⟩))) := fun u hu => (hx.below hu hx.lt).cell 4
  have cw := writes_at (hS1 _ hb0)
  have cr : ∀ u, Below w.heap.size w u → _ := fun u hu => reads_at (hS1 u hu)
  have hWl : S.W.length ≤ 256 := by
    obtain ⟨rb, wb, v, Y, hA⟩ := hs
    exact hA.wr.gd.le
  have hRl : S.R.length ≤ 256 := by
    obtain ⟨rb, wb, v, Y, hA⟩ := hs
    exact hA.rd.gd.le
  have HE : Hid (ends S = if S.W.length = 0 then [.stay] else (srt (kys S.W)).map .lock ++ .adv :: ((srt (kys S.R)).map .look ++ (srt (kys S.W)).map .pub)) := rfl
  have hlw : (srt (kys S.W)).length = S.W.length := by rw [srt_len, kys_len]
  have hlr : (srt (kys S.R)).length = S.R.length := by rw [srt_len, kys_len]
  have HG : Hid (Box (w.alloc (.cells #[ptr g] 30)) w.heap.size #[ptr g] 30) := Box.new w _ 30
  generalize ends S = L at *
  generalize srt (kys S.W) = lw at *
  generalize srt (kys S.R) = lr at *
  generalize S.W.length = nw at *
  generalize S.R.length = nr at *
  clear hx hs hS1
  have c4 := HC.out _ hb0
  have HLW : Hid (lw.length = nw) := hlw
  have HLR : Hid (lr.length = nr) := hlr
  have HB0 : Hid (Below w.heap.size w (w.alloc (.cells #[ptr g] 30))) := hb0
  clear hlw hlr hb0
  unfold ptr at *
  go_enter Tryz.func32, Tryz.ntmps32
  go_wp2_with fail
  refine Calls.mono cw ?_
  rintro e w1 ⟨v1, rfl, hrow, hbel⟩
  obtain ⟨a1, cc1, rfl⟩ := ownsRow_slice hrow
  have HB1 : Hid (Below w.heap.size w w1) := HB0.out.trans (hbel.mono HB0.out.size)
  have HR1 : Hid (w1.ownsRow w.heap.size 3 1 (.slice a1 nw cc1) nw (zcs lw)) := ownsRow_base hrow HB0.out.size
  have HT1 : Hid (Box w1 w.heap.size #[.pointer (some ⟨g, 0, none⟩)] 30) := HG.out.below hbel HG.out.lt
  clear hrow hbel cw c4 HG HB0
  by_cases h0 : nw = 0
  · have hE : L = [.stay] := by rw [HE.out, if_pos h0]
    have h0' : (nw : Int) = 0 := by omega
    have h0'' : ((nw : Int) == 0) = true := by simpa using h0'
    go_wp2
    go_ret
    subst hE
    have hsz := HB1.out.size
    have hx := Box.new w1 #[.func (.func 47) #[] #[.pointer (some ⟨w.heap.size, 0, none⟩)]] 80
    have hbl := Below.alloc HB1.out (HB1.out.size) (.cells #[.func (.func 47) #[] #[.pointer (some ⟨w.heap.size, 0, none⟩)]] 80)
    refine ⟨_, rfl, ⟨_, _, rfl, Nat.le_refl _, fun j hj => ?_⟩, hbl⟩
    have ej : j = 0 := by simp at hj; omega
    subst ej
    refine ⟨w1.heap.size, 0, _, _, rfl, ⟨hsz, hx.lt⟩, hx, rfl, w.heap.size, ⟨Nat.le_refl _, ?_⟩, HT1.out.alloc _, rfl⟩
    have := hx.lt
    omega
  · have hE : Hid (L = lw.map .lock ++ .adv :: (lr.map .look ++ lw.map .pub)) := by unfold Hid; rw [HE.out, if_neg h0]
    have h0' : ¬ (nw : Int) = 0 := by omega
    have h0'' : ((nw : Int) == 0) = false := by simpa using h0'
    have Hnw : Hid (nw ≠ 0) := h0
    clear HE h0 h0'
    obtain ⟨P0, hP0⟩ : ∃ P0, P0 = ([] : List Stp) := ⟨_, rfl⟩
    have HP0 : Hid (P0 = []) := hP0
    have HPL : Hid (P0.length ≤ 258) := by unfold Hid; rw [hP0]; simp
    clear hP0
    go_wp2_with fail
    go_loopw [4, 23] (fun v i u => ∃ k : Nat, k ≤ nw ∧ i = .int .i64 (k : Int) ∧ Hid (Bld w u g v (P0 ++ (lw.take k).map .lock) ∧ Kt (fun t => t ≠ 80) w1 u)) (fun _ i _ => nw - (civ i).toNat)
    case atStart =>
      refine ⟨0, Nat.zero_le _, rfl, ?_, Kt.refl _ _⟩
      have e : P0 ++ (lw.take 0).map Stp.lock = [] := by rw [HP0.out]; rfl
      rw [e]
      refine ⟨HB1.out, HT1.out, [], rfl, World.ownsRow_nil _ _ _ _, ?_⟩
      intro j hj
      simp at hj
    case round =>
      obtain ⟨k, hk, rfl, hrel⟩ := hrel
      by_cases hlt : k < nw
      · have hki : (k : Int) < (nw : Int) := by omega
        have hkl : k < lw.length := by rw [HLW.out]; exact hlt
        obtain ⟨ga, cap, e1, x1⟩ := ownsRow_cell (ownsRow_kt HR1.out hrel.out.2 (by decide)) k hlt
        injection e1 with e1 e2 e3
        subst e1
        subst e3
        clear e2
        have x2 : wr.cell? ⟨ga, k, none⟩ = some (.int .i64 lw[k]) := by rw [x1]; simp [zcs, encI, hkl]
        clear x1
        have hlk : Hid (P0 ++ (lw.take (k + 1)).map Stp.lock = (P0 ++ (lw.take k).map Stp.lock) ++ [.lock lw[k]]) := by unfold Hid; rw [List.take_succ_eq_append_getElem hkl, List.map_append, ← List.append_assoc]; rfl
        generalize lw[k] = z at *
        obtain ⟨vs, hvl, hvr, hvp⟩ := hrel.out.1.row
        have hn : (P0 ++ (lw.take k).map Stp.lock).length ≤ 800 := by
          have := HPL.out
          have hll := HLW.out
          simp
          omega
        obtain ⟨Lk, hLk⟩ : ∃ Lk, Lk = P0 ++ (lw.take k).map Stp.lock := ⟨_, rfl⟩
        rw [← hLk] at hrel hlk hvl hvr hvp hn
        obtain ⟨q, hq⟩ : ∃ q, q = Lk.length := ⟨_, rfl⟩
        rw [← hq] at hn hvr
        obtain ⟨av, cv, rfl⟩ := ownsRow_slice hvr
        have HV : Hid (wr.ownsRow w.heap.size 80 1 (.slice av q cv) q vs) := hvr
        have HP : Hid (vs.length = Lk.length ∧ ∀ j (hj : j < Lk.length), ∃ x, vs[j]? = some x ∧ IsStp wr (fun x => w.heap.size ≤ x ∧ x < wr.heap.size) g x Lk[j]) := ⟨hvl, hvp⟩
        have HN : Hid (Lk.length = q) := hq.symm
        have hsz : Hid (w.heap.size ≤ wr.heap.size) := hrel.out.1.bel.size
        clear hvl hvr hvp hLk hq
        obtain ⟨u1, hu1⟩ : ∃ u1, u1 = (wr.alloc (.cells #[.int .i64 z] 3)).alloc (.cells #[.func (.func 49) #[] #[.pointer (some ⟨w.heap.size, 0, none⟩), .pointer (some ⟨wr.heap.size, 0, none⟩)]] 80) := ⟨_, rfl⟩
        have b1 : Box u1 (wr.heap.size + 1) #[.func (.func 49) #[] #[.pointer (some ⟨w.heap.size, 0, none⟩), .pointer (some ⟨wr.heap.size, 0, none⟩)]] 80 := by
          rw [hu1]
          have := Box.new (wr.alloc (.cells #[.int .i64 z] 3)) #[.func (.func 49) #[] #[.pointer (some ⟨w.heap.size, 0, none⟩), .pointer (some ⟨wr.heap.size, 0, none⟩)]] 80
          simpa using this
        have b2 : Box u1 wr.heap.size #[.int .i64 z] 3 := by rw [hu1]; exact (Box.new wr _ 3).alloc _
        have b3 : Below wr.heap.size wr u1 := by
          rw [hu1]
          exact ((Below.refl wr.heap.size wr).alloc (Nat.le_refl _) _).alloc (by simp) _
        have HB : Hid (Box u1 (wr.heap.size + 1) #[.func (.func 49) #[] #[.pointer (some ⟨w.heap.size, 0, none⟩), .pointer (some ⟨wr.heap.size, 0, none⟩)]] 80 ∧ Box u1 wr.heap.size #[.int .i64 z] 3 ∧ Below wr.heap.size wr u1) := ⟨b1, b2, b3⟩
        clear b1 b2 b3
        subst hu1
        go_wp2_with (first
          | (at_builtin
             refine wpList_append_own_at _ rfl _ _ 61 rfl w.heap.size 80 i0 .nilFunc 1 8 Tryz.underlying61 hi0 hz0 hz1 hz2 rfl (by decide) _ q _ rfl (ownsRow_below HV.out HB.out.2.2.block) ⟨wr.heap.size + 1, 0, none⟩ 1 1 [.func (.func 49) #[] #[.pointer (some ⟨w.heap.size, 0, none⟩), .pointer (some ⟨wr.heap.size, 0, none⟩)]] rfl rfl (World.news_of_block (cs := #[.func (.func 49) #[] #[.pointer (some ⟨w.heap.size, 0, none⟩), .pointer (some ⟨wr.heap.size, 0, none⟩)]]) (t := 80) (fr := (0, 0)) HB.out.1) (by intro u hu; simp at hu; subst hu; rfl) (by unfold maxLen; omega) (by omega) (by have := hsz.out; have := HB.out.2.2.size; omega) ?_
             intro v' w4 hown' hgrow hnil hloc
             obtain ⟨a', c', rfl⟩ := ownsRow_slice hown'
             have HW : Hid (w4.ownsRow w.heap.size 80 1 (.slice a' (q + 1) c') (q + 1) (vs ++ [.func (.func 49) #[] #[.pointer (some ⟨w.heap.size, 0, none⟩), .pointer (some ⟨wr.heap.size, 0, none⟩)]]) ∧ World.grownBy ((wr.alloc (.cells #[.int .i64 z] 3)).alloc (.cells #[.func (.func 49) #[] #[.pointer (some ⟨w.heap.size, 0, none⟩), .pointer (some ⟨wr.heap.size, 0, none⟩)]] 80)) w4 (Value.slice av q cv).ownBlock) := ⟨hown', hgrow⟩
             clear hown' hgrow hnil hloc)
          | go_in)
        go_roundw
        case rel =>
          have hs2 : IsStp ((wr.alloc (.cells #[.int .i64 z] 3)).alloc (.cells #[.func (.func 49) #[] #[.pointer (some ⟨w.heap.size, 0, none⟩), .pointer (some ⟨wr.heap.size, 0, none⟩)]] 80)) (fun x => w.heap.size ≤ x ∧ x < (World.heap ((wr.alloc (.cells #[.int .i64 z] 3)).alloc (.cells #[.func (.func 49) #[] #[.pointer (some ⟨w.heap.size, 0, none⟩), .pointer (some ⟨wr.heap.size, 0, none⟩)]] 80))).size) g (.func (.func 49) #[] #[.pointer (some ⟨w.heap.size, 0, none⟩), .pointer (some ⟨wr.heap.size, 0, none⟩)]) (.lock z) :=
            ⟨w.heap.size, ⟨Nat.le_refl _, (hrel.out.1.tb.below HB.out.2.2 hrel.out.1.tb.lt).lt⟩, hrel.out.1.tb.below HB.out.2.2 hrel.out.1.tb.lt, wr.heap.size, ⟨hsz.out, HB.out.2.1.lt⟩, HB.out.2.1, rfl⟩
          obtain ⟨q1, q2⟩ := Bld.add hrel.out.1 HN.out HP.out.1 HP.out.2 HB.out.2.2 hs2 HV.out HW.out.1 HW.out.2
          refine ⟨k + 1, by omega, by simp, ?_, fun x cs t b ht => q2 x cs t (hrel.out.2 x cs t b ht) ht⟩
          rw [hlk.out]; exact q1
        case measure => simp only [civ]; omega
      · have hkn : k = nw := by omega
        subst k
        have hki : ¬ (nw : Int) < (nw : Int) := by omega
        have hend := hrel.out
        rw [← HLW.out, List.take_length] at hend
        have hkt : Kt (fun t => t ≠ 80) w1 wr := hend.2
        have hbl : Bld w wr g _ (P0 ++ lw.map Stp.lock) := hend.1
        clear hend hrel
        obtain ⟨vs, hvl, hvr, hvp⟩ := hbl.row
        obtain ⟨P1, hP1⟩ : ∃ P1, P1 = (P0 ++ lw.map Stp.lock) ++ [.adv] := ⟨_, rfl⟩
        have HP1 : Hid (P1 = lw.map Stp.lock ++ [.adv]) := by unfold Hid; rw [hP1, HP0.out]; simp
        obtain ⟨Lk, hLk⟩ : ∃ Lk, Lk = P0 ++ lw.map Stp.lock := ⟨_, rfl⟩
        rw [← hLk] at hbl hvl hvr hvp hP1
        obtain ⟨q, hq⟩ : ∃ q, q = Lk.length := ⟨_, rfl⟩
        have hn : q ≤ 257 := by
          have hll := HLW.out
          rw [hq, hLk, HP0.out]
          simp
          omega
        rw [← hq] at hvr
        obtain ⟨av, cv, rfl⟩ := ownsRow_slice hvr
        have HV : Hid (wr.ownsRow w.heap.size 80 1 (.slice av q cv) q vs) := hvr
        have HP : Hid (vs.length = Lk.length ∧ ∀ j (hj : j < Lk.length), ∃ x, vs[j]? = some x ∧ IsStp wr (fun x => w.heap.size ≤ x ∧ x < wr.heap.size) g x Lk[j]) := ⟨hvl, hvp⟩
        have HN : Hid (Lk.length = q) := hq.symm
        have hsz : Hid (w.heap.size ≤ wr.heap.size) := hbl.bel.size
        have HBL : Hid (Bld w wr g (.slice av q cv) Lk ∧ Kt (fun t => t ≠ 80) w1 wr) := ⟨hbl, hkt⟩
        have HPX : Hid (P1 = Lk ++ [.adv]) := hP1
        clear hvl hvr hvp hLk hq hbl hkt hP1 HPL
        obtain ⟨u1, hu1⟩ : ∃ u1, u1 = wr.alloc (.cells #[.func (.func 51) #[] #[.pointer (some ⟨w.heap.size, 0, none⟩)]] 80) := ⟨_, rfl⟩
        have b1 : Box u1 wr.heap.size #[.func (.func 51) #[] #[.pointer (some ⟨w.heap.size, 0, none⟩)]] 80 := by rw [hu1]; exact Box.new wr _ 80
        have b3 : Below wr.heap.size wr u1 := by
          rw [hu1]
          exact (Below.refl wr.heap.size wr).alloc (Nat.le_refl _) _
        have HB : Hid (Box u1 wr.heap.size #[.func (.func 51) #[] #[.pointer (some ⟨w.heap.size, 0, none⟩)]] 80 ∧ Below wr.heap.size wr u1) := ⟨b1, b3⟩
        clear b1 b3
        subst hu1
        go_wp2_with (first
          | (at_builtin
             refine wpList_append_own_at _ rfl _ _ 61 rfl w.heap.size 80 i0 .nilFunc 1 8 Tryz.underlying61 hi0 hz0 hz1 hz2 rfl (by decide) _ q _ rfl (ownsRow_below HV.out HB.out.2.block) ⟨wr.heap.size, 0, none⟩ 1 1 [.func (.func 51) #[] #[.pointer (some ⟨w.heap.size, 0, none⟩)]] rfl rfl (World.news_of_block (cs := #[.func (.func 51) #[] #[.pointer (some ⟨w.heap.size, 0, none⟩)]]) (t := 80) (fr := (0, 0)) HB.out.1) (by intro u hu; simp at hu; subst hu; rfl) (by unfold maxLen; omega) (by omega) (by have := hsz.out; have := HB.out.2.size; omega) ?_
             intro v' w4 hown' hgrow hnil hloc
             obtain ⟨a', c', rfl⟩ := ownsRow_slice hown'
             have HW : Hid (w4.ownsRow w.heap.size 80 1 (.slice a' (q + 1) c') (q + 1) (vs ++ [.func (.func 51) #[] #[.pointer (some ⟨w.heap.size, 0, none⟩)]]) ∧ World.grownBy (wr.alloc (.cells #[.func (.func 51) #[] #[.pointer (some ⟨w.heap.size, 0, none⟩)]] 80)) w4 (Value.slice av q cv).ownBlock) := ⟨hown', hgrow⟩
             clear hown' hgrow hnil hloc
             have hs2 : IsStp (wr.alloc (.cells #[.func (.func 51) #[] #[.pointer (some ⟨w.heap.size, 0, none⟩)]] 80)) (fun x => w.heap.size ≤ x ∧ x < (World.heap (wr.alloc (.cells #[.func (.func 51) #[] #[.pointer (some ⟨w.heap.size, 0, none⟩)]] 80))).size) g (.func (.func 51) #[] #[.pointer (some ⟨w.heap.size, 0, none⟩)]) .adv :=
               ⟨w.heap.size, ⟨Nat.le_refl _, (HBL.out.1.tb.below HB.out.2 HBL.out.1.tb.lt).lt⟩, HBL.out.1.tb.below HB.out.2 HBL.out.1.tb.lt, rfl⟩
             obtain ⟨q1, q2⟩ := Bld.add HBL.out.1 HN.out HP.out.1 HP.out.2 HB.out.2 hs2 HV.out HW.out.1 HW.out.2
             have HF4 : Hid (Bld w w4 g (.slice a' (q + 1) c') P1) := by unfold Hid; rw [HPX.out]; exact q1
             have HK4 : Hid (Kt (fun t => t ≠ 80) w1 w4) := fun x cs t b ht => q2 x cs t (HBL.out.2 x cs t b ht) ht
             have c44 := HC.out w4 HF4.out.bel
             have t44 : w4.cell? ⟨w.heap.size, 0, none⟩ = some (.pointer (some ⟨g, 0, none⟩)) := HF4.out.tb.cell 0
             clear q1 q2 hs2 HW HB HV HP)
          | fail)
        refine Calls.mono (cr w4 HF4.out.bel) ?_
        rintro e w6 ⟨v6, rfl, hrow6, hbel6⟩
        obtain ⟨a6, cc6, rfl⟩ := ownsRow_slice hrow6
        have HF6 : Hid (Bld w w6 g (.slice a' (q + 1) c') P1) := HF4.out.below hbel6
        have HR2 : Hid (w6.ownsRow w.heap.size 3 1 (.slice a6 nr cc6) nr (zcs lr)) := ownsRow_base hrow6 HF4.out.bel.size
        have HR16 : Hid (w6.ownsRow w.heap.size 3 1 (.slice a1 nw cc1) nw (zcs lw)) := ownsRow_below (ownsRow_kt HR1.out HK4.out (by decide)) hbel6.block
        have HPL : Hid (P1.length ≤ 258) := by
          unfold Hid
          rw [HPX.out]
          have := HN.out
          simp
          omega
        clear hrow6 hbel6 HF4 HK4 c44 t44 HR1 HBL HPX HN hsz
        go_wp2_with fail
        go_loopw [4, 42] (fun v i u => ∃ k : Nat, k ≤ nr ∧ i = .int .i64 (k : Int) ∧ Hid (Bld w u g v (P1 ++ (lr.take k).map .look) ∧ Kt (fun t => t ≠ 80) w6 u)) (fun _ i _ => nr - (civ i).toNat)
        case atStart =>
          refine ⟨0, Nat.zero_le _, rfl, ?_, Kt.refl _ _⟩
          have e : P1 ++ (lr.take 0).map Stp.look = P1 := by simp
          rw [e]
          exact HF6.out
        case round =>
          obtain ⟨k, hk, rfl, hrel⟩ := hrel
          by_cases hlt : k < nr
          · have hki : (k : Int) < (nr : Int) := by omega
            have hkl : k < lr.length := by rw [HLR.out]; exact hlt
            obtain ⟨ga, cap, e1, x1⟩ := ownsRow_cell (ownsRow_kt HR2.out hrel.out.2 (by decide)) k hlt
            injection e1 with e1 e2 e3
            subst e1
            subst e3
            clear e2
            have x2 : wr.cell? ⟨ga, k, none⟩ = some (.int .i64 lr[k]) := by rw [x1]; simp [zcs, encI, hkl]
            clear x1
            have hlk : Hid (P1 ++ (lr.take (k + 1)).map Stp.look = (P1 ++ (lr.take k).map Stp.look) ++ [.look lr[k]]) := by unfold Hid; rw [List.take_succ_eq_append_getElem hkl, List.map_append, ← List.append_assoc]; rfl
            generalize lr[k] = z at *
            obtain ⟨vs, hvl, hvr, hvp⟩ := hrel.out.1.row
            have hn : (P1 ++ (lr.take k).map Stp.look).length ≤ 800 := by
              have := HPL.out
              have hll := HLR.out
              simp
              omega
            obtain ⟨Lk, hLk⟩ : ∃ Lk, Lk = P1 ++ (lr.take k).map Stp.look := ⟨_, rfl⟩
            rw [← hLk] at hrel hlk hvl hvr hvp hn
            obtain ⟨q, hq⟩ : ∃ q, q = Lk.length := ⟨_, rfl⟩
            rw [← hq] at hn hvr
            obtain ⟨av, cv, rfl⟩ := ownsRow_slice hvr
            have HV : Hid (wr.ownsRow w.heap.size 80 1 (.slice av q cv) q vs) := hvr
            have HP : Hid (vs.length = Lk.length ∧ ∀ j (hj : j < Lk.length), ∃ x, vs[j]? = some x ∧ IsStp wr (fun x => w.heap.size ≤ x ∧ x < wr.heap.size) g x Lk[j]) := ⟨hvl, hvp⟩
            have HN : Hid (Lk.length = q) := hq.symm
            have hsz : Hid (w.heap.size ≤ wr.heap.size) := hrel.out.1.bel.size
            clear hvl hvr hvp hLk hq
            obtain ⟨u1, hu1⟩ : ∃ u1, u1 = (wr.alloc (.cells #[.int .i64 z] 3)).alloc (.cells #[.func (.func 54) #[] #[.pointer (some ⟨w.heap.size, 0, none⟩), .pointer (some ⟨wr.heap.size, 0, none⟩)]] 80) := ⟨_, rfl⟩
            have b1 : Box u1 (wr.heap.size + 1) #[.func (.func 54) #[] #[.pointer (some ⟨w.heap.size, 0, none⟩), .pointer (some ⟨wr.heap.size, 0, none⟩)]] 80 := by
              rw [hu1]
              have := Box.new (wr.alloc (.cells #[.int .i64 z] 3)) #[.func (.func 54) #[] #[.pointer (some ⟨w.heap.size, 0, none⟩), .pointer (some ⟨wr.heap.size, 0, none⟩)]] 80
              simpa using this
            have b2 : Box u1 wr.heap.size #[.int .i64 z] 3 := by rw [hu1]; exact (Box.new wr _ 3).alloc _
            have b3 : Below wr.heap.size wr u1 := by
              rw [hu1]
              exact ((Below.refl wr.heap.size wr).alloc (Nat.le_refl _) _).alloc (by simp) _
            have HB : Hid (Box u1 (wr.heap.size + 1) #[.func (.func 54) #[] #[.pointer (some ⟨w.heap.size, 0, none⟩), .pointer (some ⟨wr.heap.size, 0, none⟩)]] 80 ∧ Box u1 wr.heap.size #[.int .i64 z] 3 ∧ Below wr.heap.size wr u1) := ⟨b1, b2, b3⟩
            clear b1 b2 b3
            subst hu1
            go_wp2_with (first
              | (at_builtin
                 refine wpList_append_own_at _ rfl _ _ 61 rfl w.heap.size 80 i0 .nilFunc 1 8 Tryz.underlying61 hi0 hz0 hz1 hz2 rfl (by decide) _ q _ rfl (ownsRow_below HV.out HB.out.2.2.block) ⟨wr.heap.size + 1, 0, none⟩ 1 1 [.func (.func 54) #[] #[.pointer (some ⟨w.heap.size, 0, none⟩), .pointer (some ⟨wr.heap.size, 0, none⟩)]] rfl rfl (World.news_of_block (cs := #[.func (.func 54) #[] #[.pointer (some ⟨w.heap.size, 0, none⟩), .pointer (some ⟨wr.heap.size, 0, none⟩)]]) (t := 80) (fr := (0, 0)) HB.out.1) (by intro u hu; simp at hu; subst hu; rfl) (by unfold maxLen; omega) (by omega) (by have := hsz.out; have := HB.out.2.2.size; omega) ?_
                 intro v' w4 hown' hgrow hnil hloc
                 obtain ⟨a', c', rfl⟩ := ownsRow_slice hown'
                 have HW : Hid (w4.ownsRow w.heap.size 80 1 (.slice a' (q + 1) c') (q + 1) (vs ++ [.func (.func 54) #[] #[.pointer (some ⟨w.heap.size, 0, none⟩), .pointer (some ⟨wr.heap.size, 0, none⟩)]]) ∧ World.grownBy ((wr.alloc (.cells #[.int .i64 z] 3)).alloc (.cells #[.func (.func 54) #[] #[.pointer (some ⟨w.heap.size, 0, none⟩), .pointer (some ⟨wr.heap.size, 0, none⟩)]] 80)) w4 (Value.slice av q cv).ownBlock) := ⟨hown', hgrow⟩
                 clear hown' hgrow hnil hloc)
              | go_in)
            go_roundw
            case rel =>
              have hs2 : IsStp ((wr.alloc (.cells #[.int .i64 z] 3)).alloc (.cells #[.func (.func 54) #[] #[.pointer (some ⟨w.heap.size, 0, none⟩), .pointer (some ⟨wr.heap.size, 0, none⟩)]] 80)) (fun x => w.heap.size ≤ x ∧ x < (World.heap ((wr.alloc (.cells #[.int .i64 z] 3)).alloc (.cells #[.func (.func 54) #[] #[.pointer (some ⟨w.heap.size, 0, none⟩), .pointer (some ⟨wr.heap.size, 0, none⟩)]] 80))).size) g (.func (.func 54) #[] #[.pointer (some ⟨w.heap.size, 0, none⟩), .pointer (some ⟨wr.heap.size, 0, none⟩)]) (.look z) :=
                ⟨w.heap.size, ⟨Nat.le_refl _, (hrel.out.1.tb.below HB.out.2.2 hrel.out.1.tb.lt).lt⟩, hrel.out.1.tb.below HB.out.2.2 hrel.out.1.tb.lt, wr.heap.size, ⟨hsz.out, HB.out.2.1.lt⟩, HB.out.2.1, rfl⟩
              obtain ⟨q1, q2⟩ := Bld.add hrel.out.1 HN.out HP.out.1 HP.out.2 HB.out.2.2 hs2 HV.out HW.out.1 HW.out.2
              refine ⟨k + 1, by omega, by simp, ?_, fun x cs t b ht => q2 x cs t (hrel.out.2 x cs t b ht) ht⟩
              rw [hlk.out]; exact q1
            case measure => simp only [civ]; omega
          · have hkn : k = nr := by omega
            subst k
            have hki : ¬ (nr : Int) < (nr : Int) := by omega
            have hend := hrel.out
            rw [← HLR.out, List.take_length] at hend
            have hkt : Kt (fun t => t ≠ 80) w6 wr := hend.2
            have hbl : Bld w wr g _ (P1 ++ lr.map Stp.look) := hend.1
            clear hend hrel
            obtain ⟨P2, hP2⟩ : ∃ P2, P2 = P1 ++ lr.map Stp.look := ⟨_, rfl⟩
            have HP2 : Hid (P2 = lw.map Stp.lock ++ .adv :: lr.map Stp.look) := by unfold Hid; rw [hP2, HP1.out]; simp
            rw [← hP2] at hbl
            have hpl2 : Hid (P2.length ≤ 520) := by
              have := HPL.out
              have hll := HLR.out
              unfold Hid
              rw [hP2]
              simp
              omega
            clear HPL
            have HPL : Hid (P2.length ≤ 520) := hpl2
            clear hpl2 hP2
            have HR3 : Hid (w6.ownsRow w.heap.size 3 1 (.slice a1 nw cc1) nw (zcs lw)) := HR16.out
            go_wp2_with fail
            go_loopw [4, 53] (fun v i u => ∃ k : Nat, k ≤ nw ∧ i = .int .i64 (k : Int) ∧ Hid (Bld w u g v (P2 ++ (lw.take k).map .pub) ∧ Kt (fun t => t ≠ 80) w6 u)) (fun _ i _ => nw - (civ i).toNat)
            case atStart =>
              refine ⟨0, Nat.zero_le _, rfl, ?_, hkt⟩
              have e : P2 ++ (lw.take 0).map Stp.pub = P2 := by simp
              rw [e]
              exact hbl
            case round =>
              obtain ⟨k, hk, rfl, hrel⟩ := hrel
              by_cases hlt : k < nw
              · have hki : (k : Int) < (nw : Int) := by omega
                have hkl : k < lw.length := by rw [HLW.out]; exact hlt
                obtain ⟨ga, cap, e1, x1⟩ := ownsRow_cell (ownsRow_kt HR3.out hrel.out.2 (by decide)) k hlt
                injection e1 with e1 e2 e3
                subst e1
                subst e3
                clear e2
                have x2 : wr.cell? ⟨ga, k, none⟩ = some (.int .i64 lw[k]) := by rw [x1]; simp [zcs, encI, hkl]
                clear x1
                have hlk : Hid (P2 ++ (lw.take (k + 1)).map Stp.pub = (P2 ++ (lw.take k).map Stp.pub) ++ [.pub lw[k]]) := by unfold Hid; rw [List.take_succ_eq_append_getElem hkl, List.map_append, ← List.append_assoc]; rfl
                generalize lw[k] = z at *
                obtain ⟨vs, hvl, hvr, hvp⟩ := hrel.out.1.row
                have hn : (P2 ++ (lw.take k).map Stp.pub).length ≤ 800 := by
                  have := HPL.out
                  have hll := HLW.out
                  simp
                  omega
                obtain ⟨Lk, hLk⟩ : ∃ Lk, Lk = P2 ++ (lw.take k).map Stp.pub := ⟨_, rfl⟩
                rw [← hLk] at hrel hlk hvl hvr hvp hn
                obtain ⟨q, hq⟩ : ∃ q, q = Lk.length := ⟨_, rfl⟩
                rw [← hq] at hn hvr
                obtain ⟨av, cv, rfl⟩ := ownsRow_slice hvr
                have HV : Hid (wr.ownsRow w.heap.size 80 1 (.slice av q cv) q vs) := hvr
                have HP : Hid (vs.length = Lk.length ∧ ∀ j (hj : j < Lk.length), ∃ x, vs[j]? = some x ∧ IsStp wr (fun x => w.heap.size ≤ x ∧ x < wr.heap.size) g x Lk[j]) := ⟨hvl, hvp⟩
                have HN : Hid (Lk.length = q) := hq.symm
                have hsz : Hid (w.heap.size ≤ wr.heap.size) := hrel.out.1.bel.size
                clear hvl hvr hvp hLk hq
                obtain ⟨u1, hu1⟩ : ∃ u1, u1 = (wr.alloc (.cells #[.int .i64 z] 3)).alloc (.cells #[.func (.func 56) #[] #[.pointer (some ⟨w.heap.size, 0, none⟩), .pointer (some ⟨wr.heap.size, 0, none⟩)]] 80) := ⟨_, rfl⟩
                have b1 : Box u1 (wr.heap.size + 1) #[.func (.func 56) #[] #[.pointer (some ⟨w.heap.size, 0, none⟩), .pointer (some ⟨wr.heap.size, 0, none⟩)]] 80 := by
                  rw [hu1]
                  have := Box.new (wr.alloc (.cells #[.int .i64 z] 3)) #[.func (.func 56) #[] #[.pointer (some ⟨w.heap.size, 0, none⟩), .pointer (some ⟨wr.heap.size, 0, none⟩)]] 80
                  simpa using this
                have b2 : Box u1 wr.heap.size #[.int .i64 z] 3 := by rw [hu1]; exact (Box.new wr _ 3).alloc _
                have b3 : Below wr.heap.size wr u1 := by
                  rw [hu1]
                  exact ((Below.refl wr.heap.size wr).alloc (Nat.le_refl _) _).alloc (by simp) _
                have HB : Hid (Box u1 (wr.heap.size + 1) #[.func (.func 56) #[] #[.pointer (some ⟨w.heap.size, 0, none⟩), .pointer (some ⟨wr.heap.size, 0, none⟩)]] 80 ∧ Box u1 wr.heap.size #[.int .i64 z] 3 ∧ Below wr.heap.size wr u1) := ⟨b1, b2, b3⟩
                clear b1 b2 b3
                subst hu1
                go_wp2_with (first
                  | (at_builtin
                     refine wpList_append_own_at _ rfl _ _ 61 rfl w.heap.size 80 i0 .nilFunc 1 8 Tryz.underlying61 hi0 hz0 hz1 hz2 rfl (by decide) _ q _ rfl (ownsRow_below HV.out HB.out.2.2.block) ⟨wr.heap.size + 1, 0, none⟩ 1 1 [.func (.func 56) #[] #[.pointer (some ⟨w.heap.size, 0, none⟩), .pointer (some ⟨wr.heap.size, 0, none⟩)]] rfl rfl (World.news_of_block (cs := #[.func (.func 56) #[] #[.pointer (some ⟨w.heap.size, 0, none⟩), .pointer (some ⟨wr.heap.size, 0, none⟩)]]) (t := 80) (fr := (0, 0)) HB.out.1) (by intro u hu; simp at hu; subst hu; rfl) (by unfold maxLen; omega) (by omega) (by have := hsz.out; have := HB.out.2.2.size; omega) ?_
                     intro v' w4 hown' hgrow hnil hloc
                     obtain ⟨a', c', rfl⟩ := ownsRow_slice hown'
                     have HW : Hid (w4.ownsRow w.heap.size 80 1 (.slice a' (q + 1) c') (q + 1) (vs ++ [.func (.func 56) #[] #[.pointer (some ⟨w.heap.size, 0, none⟩), .pointer (some ⟨wr.heap.size, 0, none⟩)]]) ∧ World.grownBy ((wr.alloc (.cells #[.int .i64 z] 3)).alloc (.cells #[.func (.func 56) #[] #[.pointer (some ⟨w.heap.size, 0, none⟩), .pointer (some ⟨wr.heap.size, 0, none⟩)]] 80)) w4 (Value.slice av q cv).ownBlock) := ⟨hown', hgrow⟩
                     clear hown' hgrow hnil hloc)
                  | go_in)
                go_roundw
                case rel =>
                  have hs2 : IsStp ((wr.alloc (.cells #[.int .i64 z] 3)).alloc (.cells #[.func (.func 56) #[] #[.pointer (some ⟨w.heap.size, 0, none⟩), .pointer (some ⟨wr.heap.size, 0, none⟩)]] 80)) (fun x => w.heap.size ≤ x ∧ x < (World.heap ((wr.alloc (.cells #[.int .i64 z] 3)).alloc (.cells #[.func (.func 56) #[] #[.pointer (some ⟨w.heap.size, 0, none⟩), .pointer (some ⟨wr.heap.size, 0, none⟩)]] 80))).size) g (.func (.func 56) #[] #[.pointer (some ⟨w.heap.size, 0, none⟩), .pointer (some ⟨wr.heap.size, 0, none⟩)]) (.pub z) :=
                    ⟨w.heap.size, ⟨Nat.le_refl _, (hrel.out.1.tb.below HB.out.2.2 hrel.out.1.tb.lt).lt⟩, hrel.out.1.tb.below HB.out.2.2 hrel.out.1.tb.lt, wr.heap.size, ⟨hsz.out, HB.out.2.1.lt⟩, HB.out.2.1, rfl⟩
                  obtain ⟨q1, q2⟩ := Bld.add hrel.out.1 HN.out HP.out.1 HP.out.2 HB.out.2.2 hs2 HV.out HW.out.1 HW.out.2
                  refine ⟨k + 1, by omega, by simp, ?_, fun x cs t b ht => q2 x cs t (hrel.out.2 x cs t b ht) ht⟩
                  rw [hlk.out]; exact q1
                case measure => simp only [civ]; omega
              · have hkn : k = nw := by omega
                subst k
                have hki : ¬ (nw : Int) < (nw : Int) := by omega
                have hend := hrel.out
                rw [← HLW.out, List.take_length] at hend
                have hkt : Kt (fun t => t ≠ 80) w6 wr := hend.2
                have hbl : Bld w wr g _ (P2 ++ lw.map Stp.pub) := hend.1
                clear hend hrel
                have HF : Hid (Bld w wr g _ (P2 ++ lw.map Stp.pub)) := hbl
                have hEq : Hid (L = P2 ++ lw.map Stp.pub ∧ L ≠ []) := by
                  refine ⟨?_, ?_⟩
                  · rw [hE.out, HP2.out]; simp
                  · rw [hE.out]; simp
                clear hbl hkt
                go_wp2
                go_ret
                have hF := HF.out
                rw [← hEq.out.1] at hF
                exact ⟨_, rfl, hF.left hEq.out.2, hF.bel⟩
end Go.Proofs.YtlbjalodjcajfaaGreat
