/-
  NestWhole: the body of a scope, walked.
-/
import Derived.Test.YtbpbclmlkdnfbaaNWb
namespace Go.Proofs.Ytbpbclmlkdnfbaa.T
open Go.RowKit Go.Proofs.Ytbpbclmlkdnfbaa.C
section
variable {w0 u : World} {m gm g : Nat} {G : Nat → Prop}
theorem bool_at {w u' : World} {a : Option Addr} {ks : List Bool} (h : RdBl w a ks) (hb : Below w.heap.size w u') (k : Nat) (hk : k < ks.length) : ∃ b o, a = some ⟨b, o, none⟩ ∧ u'.cell? ⟨b, o + k, none⟩ = some (.bool (ks.getD k false)) := by
  obtain ⟨b, o, rfl, hc⟩ := h (by omega)
  have c0 := hc k hk
  have hl : b < w.heap.size := block_lt_of_cell c0
  refine ⟨b, o, rfl, ?_⟩
  rw [hb.cell (p := ⟨b, o + k, none⟩) hl, c0]
  simp [List.getD, hk]
theorem enter29 : ∀ args w, (callFunc 29 args).run Try.prog w = .ok (.enter 29 args) w := enters_of Try.func29 (by kernel_rfl) rfl
theorem mod5 (z : Int) : ∃ c : Nat, c < 5 ∧ z % 5 = (c : Int) := ⟨(z % 5).toNat, by omega, by omega⟩
set_option maxHeartbeats 4000000 in
set_option maxRecDepth 100000 in
theorem body30_at {p : WP} {ps : List (Int × Int)} {ks : List Bool} (hR : RdP w0 p.ia ps) (hN : ps.length = p.N) (hB : RdBl w0 p.fa ks) (hF : ks.length = p.F) (hd : p.deep ≤ 6 ∧ p.deep ≤ p.F) (n : Nat) (hn : n < p.deep) (hrec : n + 1 < p.deep → RunOk w0 m gm g p (n + 1)) {W : List (Int × Int)} {Mk : List (List (Int × Int))} {nw : List Int}
    (h : Hg w0 u m gm wS [(g, wX W Mk)] G) (hE : WE p g u G) (bn : Box u p.nb (nws nw) 53) (hW : Wv W nw) (hM : Mk.length = n + 1) (h0 : w0.heap.size ≤ p.nb) {ab : Nat} (ba : Box u ab #[.int .i64 (n : Int)] 3) (ga : ¬ G ab) :
    Calls Try.prog 30 #[ptr ab, ptr p.ib, ptr p.db, ptr p.tb, ptr p.nb, ptr p.rb, ptr p.fb] u fun r u' => r = .returned (.int .i64 (if ks.getD n false then 77 else 0)) ∧ WJ w0 u m gm g p Mk G u' := by
  have hab : ab ≠ p.nb := ba.ne bn (by decide)
  obtain ⟨z, hz⟩ : ∃ z : Int, z = if ks.getD n false then 77 else 0 := ⟨_, rfl⟩
  rw [← hz]
  have HZ : Hid (z = if ks.getD n false then 77 else 0) := hz
  clear hz
  have HC : Hid (∀ u' W' nw', ToG w0 u m gm wS [(g, wX W' Mk)] G (fun y => y = p.nb) u' → Box u' p.nb (nws nw') 53 → WE p g u' (grow G u u') ∧ Box u' ab #[.int .i64 (n : Int)] 3 ∧ ¬ grow G u u' ab ∧ Below w0.heap.size w0 u') := fun u' W' nw' t b => ⟨hE.to bn t.upd t.up, Box.upd ba t.upd (fun hx => hx.elim ga hab), fun hx => hx.elim ga (fun hx => by have := ba.lt; omega), t.has.bel⟩
  have HJ0 : Hid (WJ w0 u m gm g p Mk G u) := ⟨W, nw, ToG.refl h, bn, hW⟩
  have HP : Hid (¬ G p.nb ∧ p.nb < u.heap.size ∧ w0.heap.size ≤ p.nb) := ⟨hE.gn.1, bn.lt, h0⟩
  have HRd : Hid (RdP w0 p.ia ps ∧ ps.length = p.N) := ⟨hR, hN⟩
  have HBd : Hid (RdBl w0 p.fa ks ∧ ks.length = p.F) := ⟨hB, hF⟩
  have HRec : Hid (n + 1 < p.deep → RunOk w0 m gm g p (n + 1)) := hrec
  have HM : Hid (Mk.length = n + 1) := hM
  have ca := ba.cell 0
  simp only [List.getElem?_toArray, List.getElem?_cons_zero] at ca
  have hmx : max (p.deep : Int) 1 = (p.deep : Int) := by omega
  clear hR hN hB hF hrec hM h hE bn hW h0 ba ga hab
  obtain ⟨nb, tb, ib, db, rb, fb, ia, N, ic, fa, F, fc, deep⟩ := p
  dsimp only at *
  unfold ptr at *
  go_enter Try.func30, Try.ntmps30
  go_wp2_with fail
  go_loopw [8] (fun i u' => ∃ k : Nat, k ≤ 46 ∧ i = .int .i64 (k : Int) ∧ WJ w0 u m gm g ⟨nb, tb, ib, db, rb, fb, ia, N, ic, fa, F, fc, deep⟩ Mk G u') (fun i _ => 60 - (civ i).toNat)
  case atStart => exact ⟨n, by omega, rfl, HJ0.out⟩
  case round =>
    obtain ⟨k, hk, rfl, W', nw', t, b, hW'⟩ := hrel
    have HJ : Hid (ToG w0 u m gm wS [(g, wX W' Mk)] G (fun y => y = nb) wr ∧ Box wr nb (nws nw') 53 ∧ Wv W' nw') := ⟨t, b, hW'⟩
    obtain ⟨hE', ba', ga', hbel'⟩ := HC.out wr W' nw' t b
    have HE' : Hid (WE ⟨nb, tb, ib, db, rb, fb, ia, N, ic, fa, F, fc, deep⟩ g wr (grow G u wr) ∧ Box wr ab #[.int .i64 (n : Int)] 3 ∧ ¬ grow G u wr ab ∧ Below w0.heap.size w0 wr) := ⟨hE', ba', ga', hbel'⟩
    have ct : wr.cell? ⟨tb, 0, none⟩ = some (.pointer (some ⟨g, 0, none⟩)) := hE'.bt.cell 0
    have ci : wr.cell? ⟨ib, 0, none⟩ = some (.slice ia N ic) := hE'.bi.cell 0
    have cd : wr.cell? ⟨db, 0, none⟩ = some (.int .i64 (deep : Int)) := hE'.bd.cell 0
    have cr : wr.cell? ⟨rb, 0, none⟩ = some (.func (.func 29) #[] #[.pointer (some ⟨nb, 0, none⟩), .pointer (some ⟨tb, 0, none⟩), .pointer (some ⟨ib, 0, none⟩), .pointer (some ⟨db, 0, none⟩), .pointer (some ⟨rb, 0, none⟩), .pointer (some ⟨fb, 0, none⟩)]) := hE'.br.cell 0
    have cf : wr.cell? ⟨fb, 0, none⟩ = some (.slice fa F fc) := hE'.bf.cell 0
    have ca' : wr.cell? ⟨ab, 0, none⟩ = some (.int .i64 (n : Int)) := ba'.cell 0
    clear t b hW' hE' ba' ga' hbel'
    by_cases hlt : k < N ∧ k < 40
    · have h1 : (k : Int) < (N : Int) := by omega
      have h2 : (k : Int) < 40 := by omega
      obtain ⟨bi, oi, pr, rfl, hbi, c0, c1⟩ := HRd.out.1.at HE'.out.2.2.2 k (by rw [HRd.out.2]; exact hlt.1)
      obtain ⟨pz, pv⟩ := pr
      dsimp only at c0 c1
      have cp := kitPick_at pz 5 wr (by omega) (by omega)
      obtain ⟨c, hc5, hcm⟩ := mod5 pz
      rw [hcm] at cp
      go_upto_region 5 with (go_at_call 27; refine cp.mono ?_; rintro e wx ⟨rfl, hwx⟩; subst wx)
      have CW : Hid (∀ q, Calls Try.prog 28 #[.pointer (some ⟨g, 0, none⟩), .int .i64 (c : Int), .int .i64 pv] (wr.drewN q) fun r u2 => r = .returned (.int .i64 0) ∧ ToG w0 wr m gm wS [(g, wX (pt W' (c : Int) pv) Mk)] (grow G u wr) (fun _ => False) u2) := fun q => by
        refine ((HJ.out.1.has.drew q).write (V := fun _ => False) (j := 0) rfl (c : Int) pv (wwrite HJ.out.2.2 Mk c hc5 pv)).mono ?_
        rintro r u2 ⟨a, t⟩
        exact ⟨a, t.has, t.upd⟩
      have HK : Hid (∀ u2, ToG w0 wr m gm wS [(g, wX (pt W' (c : Int) pv) Mk)] (grow G u wr) (fun _ => False) u2 → (u2.cell? ⟨tb, 0, none⟩ = some (.pointer (some ⟨g, 0, none⟩)) ∧ u2.cell? ⟨ib, 0, none⟩ = some (.slice (some ⟨bi, oi, none⟩) N ic) ∧ u2.cell? ⟨bi, oi + k * 2 + 1, none⟩ = some (.int .i64 pv)) ∧ (u2.cell? ⟨nb, c, none⟩ = some (.int .i64 (nw'.getD c 0)) ∧ u2.frozen? ⟨nb, c, none⟩ = false) ∧ u2.cell? ⟨db, 0, none⟩ = some (.int .i64 (deep : Int)) ∧ WJ w0 u m gm g ⟨nb, tb, ib, db, rb, fb, some ⟨bi, oi, none⟩, N, ic, fa, F, fc, deep⟩ Mk G (u2.setCell ⟨nb, c, none⟩ (.int .i64 pv)) ∧ (u2.setCell ⟨nb, c, none⟩ (.int .i64 pv)).cell? ⟨db, 0, none⟩ = some (.int .i64 (deep : Int))) := fun u2 t2 => by
        obtain ⟨g1, g2, g3, g4, g5, g6⟩ := HE'.out.1.gn
        have n1 : ∀ {y : Nat}, ¬ grow G u wr y → ¬ (grow G u wr y ∨ False) := fun h k => k.elim h id
        have b1 := Box.upd HE'.out.1.bt t2.upd (n1 g2)
        have b2 := Box.upd HE'.out.1.bi t2.upd (n1 g3)
        have b3 := Box.upd HE'.out.1.bd t2.upd (n1 g4)
        have b4 := Box.upd HJ.out.2.1 t2.upd (n1 g1)
        have hbb : ¬ (grow G u wr bi ∨ False) := fun hx => hx.elim (fun hx => by have := HJ.out.1.has.gB hx; omega) id
        refine ⟨⟨b1.cell 0, b2.cell 0, ?_⟩, ⟨nws_cell b4 HJ.out.2.2.len c hc5, b4.frozen c⟩, b3.cell 0, WJ.put HP.out.2.2 HP.out.1 HP.out.2.1 HJ.out.1 HJ.out.2.1 HJ.out.2.2 hc5 t2, (b3.other nb c _ (b3.ne b4 (by decide))).cell 0⟩
        have hh : u2.heap[bi]? = wr.heap[bi]? := t2.upd.2 bi (by have := HE'.out.2.2.2.size; omega) hbb
        have : u2.cell? ⟨bi, oi + k * 2 + 1, none⟩ = wr.cell? ⟨bi, oi + k * 2 + 1, none⟩ := by simp only [World.cell?, hh]
        rw [this]; exact c1
      clear c0 cp hcm ca' cr cf ca
      go_region_held3 (fun u => u.cell? ⟨tb, 0, none⟩ = some (.pointer (some ⟨g, 0, none⟩)) ∧ u.cell? ⟨ib, 0, none⟩ = some (.slice (some ⟨bi, oi, none⟩) N ic) ∧ u.cell? ⟨bi, oi + k * 2 + 1, none⟩ = some (.int .i64 pv)) (first | exact kc | go_keep) ((go_at_call 28; (first | refine (CW.out 0).mono ?_ | refine (CW.out 1).mono ?_ | refine (CW.out 2).mono ?_ | refine (CW.out 3).mono ?_); rintro e' u2 ⟨rfl, t2⟩; obtain ⟨kc, kn, kd, kj, kd2⟩ := HK.out u2 t2; have KJ : Hid (WJ w0 u m gm g ⟨nb, tb, ib, db, rb, fb, some ⟨bi, oi, none⟩, N, ic, fa, F, fc, deep⟩ Mk G (u2.setCell ⟨nb, c, none⟩ (.int .i64 pv))) := kj; clear t2 kj))
      obtain ⟨kt, ki, kv⟩ := kc
      obtain ⟨kn1, kn2⟩ := kn
      have hc0 : (c : Int) < 5 := by omega
      clear CW HK ct ci cd c1
      go_wp2_with fail
      exact ⟨⟨k + deep, by omega, by simp, KJ.out⟩, by simp [civ]; omega⟩
    · by_cases hkN : k < N
      · have h1 : (k : Int) < (N : Int) := by omega
        have h2 : ¬ ((k : Int) < 40) := by omega
        by_cases hdp : n + 1 < deep
        · have hdp' : (n : Int) + 1 < (deep : Int) := by omega
          have c29 := HRec.out hdp wr (grow G u wr) W' Mk nw' HJ.out.1.has HE'.out.1 HJ.out.2.1 HJ.out.2.2 HM.out
          rw [show ((n + 1 : Nat) : Int) = (n : Int) + 1 by omega] at c29
          unfold ptr at c29
          have h29 := enter29
          go_wp2_with fail
          refine c29.mono ?_
          rintro r u2 ⟨rfl, W2, nw2, t2, b2, hW2⟩
          have t3 := HJ.out.1.trans t2
          have HJ2 : Hid (WJ w0 u m gm g ⟨nb, tb, ib, db, rb, fb, ia, N, ic, fa, F, fc, deep⟩ Mk G u2) := ⟨W2, nw2, t3, b2, hW2⟩
          obtain ⟨hE2, ba2, _, hbel2⟩ := HC.out u2 W2 nw2 t3 b2
          have cf2 : u2.cell? ⟨fb, 0, none⟩ = some (.slice fa F fc) := hE2.bf.cell 0
          have ca2 : u2.cell? ⟨ab, 0, none⟩ = some (.int .i64 (n : Int)) := ba2.cell 0
          have HBL : Hid (Below w0.heap.size w0 u2) := hbel2
          clear t2 b2 hW2 t3 hE2 ba2 hbel2 c29
          obtain ⟨bf, of, rfl, cz⟩ := bool_at HBd.out.1 HBL.out n (by rw [HBd.out.2]; omega)
          have hnF : (n : Int) < (F : Int) := by omega
          cases hkn : ks.getD n false with
          | false =>
            rw [hkn] at cz
            go_wp2_with fail
            go_ret
            exact ⟨by rw [HZ.out, hkn]; rfl, HJ2.out⟩
          | true =>
            rw [hkn] at cz
            go_wp2_with fail
            go_ret
            exact ⟨by rw [HZ.out, hkn]; rfl, HJ2.out⟩
        · have hdp' : ¬ ((n : Int) + 1 < (deep : Int)) := by omega
          obtain ⟨bf, of, rfl, cz⟩ := bool_at HBd.out.1 HE'.out.2.2.2 n (by rw [HBd.out.2]; omega)
          have hnF : (n : Int) < (F : Int) := by omega
          cases hkn : ks.getD n false with
          | false =>
            rw [hkn] at cz
            go_wp2_with fail
            go_ret
            exact ⟨by rw [HZ.out, hkn]; rfl, ⟨W', nw', HJ.out⟩⟩
          | true =>
            rw [hkn] at cz
            go_wp2_with fail
            go_ret
            exact ⟨by rw [HZ.out, hkn]; rfl, ⟨W', nw', HJ.out⟩⟩
      · have h1 : ¬ ((k : Int) < (N : Int)) := by omega
        by_cases hdp : n + 1 < deep
        · have hdp' : (n : Int) + 1 < (deep : Int) := by omega
          have c29 := HRec.out hdp wr (grow G u wr) W' Mk nw' HJ.out.1.has HE'.out.1 HJ.out.2.1 HJ.out.2.2 HM.out
          rw [show ((n + 1 : Nat) : Int) = (n : Int) + 1 by omega] at c29
          unfold ptr at c29
          have h29 := enter29
          go_wp2_with fail
          refine c29.mono ?_
          rintro r u2 ⟨rfl, W2, nw2, t2, b2, hW2⟩
          have t3 := HJ.out.1.trans t2
          have HJ2 : Hid (WJ w0 u m gm g ⟨nb, tb, ib, db, rb, fb, ia, N, ic, fa, F, fc, deep⟩ Mk G u2) := ⟨W2, nw2, t3, b2, hW2⟩
          obtain ⟨hE2, ba2, _, hbel2⟩ := HC.out u2 W2 nw2 t3 b2
          have cf2 : u2.cell? ⟨fb, 0, none⟩ = some (.slice fa F fc) := hE2.bf.cell 0
          have ca2 : u2.cell? ⟨ab, 0, none⟩ = some (.int .i64 (n : Int)) := ba2.cell 0
          have HBL : Hid (Below w0.heap.size w0 u2) := hbel2
          clear t2 b2 hW2 t3 hE2 ba2 hbel2 c29
          obtain ⟨bf, of, rfl, cz⟩ := bool_at HBd.out.1 HBL.out n (by rw [HBd.out.2]; omega)
          have hnF : (n : Int) < (F : Int) := by omega
          cases hkn : ks.getD n false with
          | false =>
            rw [hkn] at cz
            go_wp2_with fail
            go_ret
            exact ⟨by rw [HZ.out, hkn]; rfl, HJ2.out⟩
          | true =>
            rw [hkn] at cz
            go_wp2_with fail
            go_ret
            exact ⟨by rw [HZ.out, hkn]; rfl, HJ2.out⟩
        · have hdp' : ¬ ((n : Int) + 1 < (deep : Int)) := by omega
          obtain ⟨bf, of, rfl, cz⟩ := bool_at HBd.out.1 HE'.out.2.2.2 n (by rw [HBd.out.2]; omega)
          have hnF : (n : Int) < (F : Int) := by omega
          cases hkn : ks.getD n false with
          | false =>
            rw [hkn] at cz
            go_wp2_with fail
            go_ret
            exact ⟨by rw [HZ.out, hkn]; rfl, ⟨W', nw', HJ.out⟩⟩
          | true =>
            rw [hkn] at cz
            go_wp2_with fail
            go_ret
            exact ⟨by rw [HZ.out, hkn]; rfl, ⟨W', nw', HJ.out⟩⟩
end
end Go.Proofs.Ytbpbclmlkdnfbaa.T
