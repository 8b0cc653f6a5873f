/-
  DiskSectors.
-/
import Derived.Test.YtagnmmapnpcijaaSect
import Derived.Deep.CutRange
namespace Go.Proofs.Ytagnmmapnpcijaa
open Go.RowKit

/-- what the law's loops keep: the disk behind the crash, the piles, all since w0 -/
def Kept (w0 w : World) (g gs : Nat) (C D : DS) (gf : Nat → Nat) (vf : Nat → Value) : Prop :=
  ∃ F, IsDisk w g C F ∧ (∀ i, F i → w0.heap.size ≤ i) ∧ Since w0 w F gs (sinceOf D) gf vf ∧ Below w0.heap.size w0 w
theorem Kept.bel {w0 w : World} {g gs : Nat} {C D : DS} {gf : Nat → Nat} {vf : Nat → Value} (h : Kept w0 w g gs C D gf vf) : Below w0.heap.size w0 w := by
  obtain ⟨_, _, _, _, h⟩ := h
  exact h
theorem Kept.below {w0 w w' : World} {g gs : Nat} {C D : DS} {gf : Nat → Nat} {vf : Nat → Value} (h : Kept w0 w g gs C D gf vf) (b : Below w.heap.size w w') : Kept w0 w' g gs C D gf vf := by
  obtain ⟨F, h1, h2, h3, h4⟩ := h
  exact ⟨F, h1.below b, h2, h3.below b, h4.trans (b.mono h4.size)⟩
/-- pile k, and what lies in it -/
theorem Kept.pile {w0 w : World} {g gs : Nat} {C D : DS} {gf : Nat → Nat} {vf : Nat → Value} (h : Kept w0 w g gs C D gf vf) (k : Nat) (hk : k < 4) (hy : ∀ y ∈ sinceOf D k, y.length = 4096) :
    w.cell? ⟨gs, k, none⟩ = some (vf k) ∧ ∃ o cap, vf k = .slice (some ⟨gf k, o, none⟩) (sinceOf D k).length cap ∧ (sinceOf D k).length ≤ cap ∧ cap ≤ maxLen ∧
      ∀ j y, (sinceOf D k)[j]? = some y → ∃ p c, w.cell? ⟨gf k, o + j, none⟩ = some (.slice (some ⟨p, 0, none⟩) 4096 c) ∧ 4096 ≤ c ∧ c ≤ maxLen ∧ Rd w (some ⟨p, 0, none⟩) y := by
  obtain ⟨F, h1, h2, h3, h4⟩ := h
  refine ⟨by rw [h3.box.cell k, four_get vf k hk], ?_⟩
  obtain ⟨o, cap, cur, hv, hb, hl, hc, hm, _, he⟩ := h3.pile k hk
  refine ⟨o, cap, hv, hl, hm, fun j y hjy => ?_⟩
  obtain ⟨hj, rfl⟩ := List.getElem?_eq_some_iff.1 hjy
  obtain ⟨p, c, h5, h6, _⟩ := he j hj
  have h7 := h6.rd
  obtain ⟨cur5, _, h8, h9, _⟩ := h6
  rw [hy _ (List.getElem_mem hj)] at h8
  exact ⟨p, c, by rw [hb.cell]; exact h5, h8, h9, h7⟩
theorem below_drawn (w : World) (n : Nat) : Below w.heap.size w (w.drewN n) := ⟨rfl, rfl, rfl, Nat.le_refl _, fun _ _ => rfl⟩
theorem stand_len (C : DS) (ok : C.Ok) (hu : C.uf = []) (n : Nat) (hn : n < C.nb) : (C.stand n).length = 4096 := by
  unfold DS.stand
  rw [hu]
  exact blk_length _ _ (ok.room hn)

set_option maxRecDepth 100000 in
set_option maxHeartbeats 8000000 in
theorem sectors_walk (a : Option Addr) (n cap : Nat) (zs : List Int) (ak : Option Addr) (nk ck : Nat) (ks : List Bool) (t : Int) (m : Nat) (w : World) (hl : zs.length = n) (hn : n ≤ 9223372036854775807) (hr : RdI w a zs)
    (hm : m < 256) (hks : ks.length = nk) (hnk : nk ≤ 9223372036854775807) (hrk : RdBl w ak ks) :
    Calls Try.prog 7 #[.slice a n cap, .slice ak nk ck, .int .i64 t, .int .u8 (m : Int)] w fun e w' => e = .returned (.bool true) ∧ Below w.heap.size w w' := by
  have cM := made_walk a n cap zs w hl hn hr
  have Hk : Hid (RdBl w ak ks) := hrk
  have Hks : Hid _ := hks
  clear hl hr hrk hks
  go_enter Try.func7, Try.ntmps7
  go_wp2_with fail
  refine cM.mono ?_
  rintro e w1 ⟨g, gs, rfl, D, F, gf, vf, hd, hF, B1, hS, _, hnb, hu, _⟩
  clear cM
  have hk1 : RdBl w1 ak ks := by
    intro h0
    obtain ⟨b, o, hb, hc⟩ := Hk.out h0
    exact ⟨b, o, hb, fun j hj => by rw [B1.cell (p := ⟨b, o + j, none⟩) (block_lt_of_cell (hc j hj))]; exact hc j hj⟩
  have cC := crash_at hd ak nk ck ks t m hm Hks.out hnk hk1 (fun ad h h0 hf => by
    obtain ⟨b, o, hb, hc⟩ := Hk.out (by rw [Hks.out]; exact h0)
    rw [h] at hb
    cases hb
    have h1 := block_lt_of_cell (hc 0 (by rw [Hks.out]; exact h0))
    have h2 := hF _ hf
    exact absurd h1 (by dsimp only at h2 ⊢; omega))
  have okD := hd.ok
  have Hd : Hid (IsDisk w1 g D F) := hd
  have HF : Hid _ := hF
  have HB : Hid _ := B1
  have HS : Hid _ := hS
  have Hok : Hid _ := okD
  have Hnb : Hid _ := hnb
  have HuD : Hid _ := hu
  clear hd hF B1 hS okD hnb hu hk1
  go_wp2_with fail
  refine cC.mono ?_
  rintro e w2 ⟨rfl, d2, u2⟩
  clear cC
  have K2 : Kept w w2 g gs (D.crash ks t m) D gf vf := ⟨F, d2, HF.out, HS.out.upd u2 (fun _ h => .inl h), HB.out.trans (u2.below HF.out HB.out.size)⟩
  have hsec : Hid (∀ i s, i < 4 → s < 8 → anyS ((D.crash ks t m).stand i) s (sinceOf D i) (sinceOf D i).length = true) := fun i s hi hs => crash_sector D Hok.out ks t m i s (by rw [Hnb.out]; exact hi) hs
  have hpar : Hid (partly (D.crash ks t m) D 4 ≤ 1) := (partly_le (D.crash ks t m) D (fun i j hi hj h1 h2 => crash_one D Hok.out ks t m i j (by rw [Hnb.out]; exact hi) (by rw [Hnb.out]; exact hj) h1 h2) 4 (Nat.le_refl _)).1
  have Cnb : Hid ((D.crash ks t m).nb = 4) := Hnb.out
  have Cg : Hid ((D.crash ks t m).gone = false) := rfl
  have Cu : Hid ((D.crash ks t m).uf = []) := rfl
  have Cok : Hid (D.crash ks t m).Ok := d2.ok
  have Hy : Hid (∀ k, k < 4 → ∀ y ∈ sinceOf D k, y.length = 4096) := fun k hk => sinceOf_len D Hok.out k (by rw [Hnb.out]; exact hk)
  obtain ⟨C, hC⟩ : ∃ C, C = D.crash ks t m := ⟨_, rfl⟩
  rw [← hC] at K2 hsec hpar Cnb Cg Cu Cok
  clear hC d2 u2 Hd HF HB HS Hok Hnb
  go_wp2_with fail
  go_loopw [11, 12] (fun p i wr => ∃ k : Nat, k ≤ 4 ∧ p = .int .i64 (partly C D k : Nat) ∧ i = .int .i64 k ∧ Kept w wr g gs C D gf vf) (fun _ i _ => 4 - (intOf i).toNat)
  case atStart => exact ⟨0, by omega, rfl, rfl, K2⟩
  case round =>
    clear K2
    obtain ⟨k, hk, rfl, rfl, K⟩ := hrel
    by_cases hlt : k < 4
    · have hlt2 : (k : Int) < 4 := by omega
      obtain ⟨F0, d0, rest0⟩ := id K
      have cR := read_at d0 k (by rw [Cnb.out]; exact hlt) Cg.out (by rw [Cu.out]; simp)
      have hbl := stand_len C Cok.out Cu.out k (by rw [Cnb.out]; exact hlt)
      have hsk := fun s hs => hsec.out k s hlt hs
      have hpk : partly C D (k + 1) = partly C D k + if anyW (C.stand k) (sinceOf D k) (sinceOf D k).length = true then 0 else 1 := rfl
      have hp1 : partly C D k ≤ 4 := by
        have : ∀ q, partly C D q ≤ q := fun q => by
          induction q with
          | zero => exact Nat.le_refl _
          | succ q ih => rw [partly]; split <;> omega
        have := this k
        omega
      have hyk := Hy.out k hlt
      have hL31 : (sinceOf D k).length ≤ 31 := by have := sinceOf_length D k; have := HuD.out; omega
      have hpile := fun (u : World) (h : Kept w u g gs C D gf vf) => h.pile k hlt hyk
      obtain ⟨b, hb⟩ : ∃ b, b = C.stand k := ⟨_, rfl⟩
      obtain ⟨ys, hys⟩ : ∃ ys, ys = sinceOf D k := ⟨_, rfl⟩
      rw [← hb] at cR hbl hpk
      rw [← hb, ← hys] at hsk
      rw [← hys] at hpk hyk hL31
      simp only [← hys] at hpile
      clear hb hys d0 rest0
      obtain ⟨L, hL⟩ : ∃ L, L = ys.length := ⟨_, rfl⟩
      rw [← hL] at hpk hL31
      simp only [← hL] at hpile hsk
      obtain ⟨x1, o, cp, hv, hLc, hcm, x2⟩ := hpile _ K
      clear x1 x2
      obtain ⟨gq, hgq⟩ : ∃ gq, gq = gf k := ⟨_, rfl⟩
      have hpile2 : ∀ u : World, Kept w u g gs C D gf vf → u.cell? ⟨gs, k, none⟩ = some (.slice (some ⟨gq, o, none⟩) L cp) ∧ ∀ j y, ys[j]? = some y → ∃ p c, u.cell? ⟨gq, o + j, none⟩ = some (.slice (some ⟨p, 0, none⟩) 4096 c) ∧ 4096 ≤ c ∧ c ≤ maxLen ∧ Rd u (some ⟨p, 0, none⟩) y := by
        intro u h
        obtain ⟨h1, o', cp', hv', _, _, hj⟩ := hpile u h
        rw [hv] at hv' h1
        simp only [Value.slice.injEq, Option.some.injEq, Addr.mk.injEq, true_and] at hv'
        obtain ⟨⟨rfl, _⟩, rfl⟩ := hv'
        rw [hgq]
        exact ⟨h1, hj⟩
      have Hbl : Hid _ := hbl
      have Hsk : Hid _ := hsk
      have Hpk : Hid _ := hpk
      have Hyk : Hid _ := hyk
      have HL : Hid _ := hL
      have Hpile : Hid _ := hpile2
      clear hbl hsk hpk hyk hL hpile hv hgq hpile2
      go_wp2_with fail
      refine cR.mono ?_
      rintro e w3 ⟨gr, cr, rfl, x3, r3, b3⟩
      clear cR
      have K3 := K.below b3
      have rb := r3.rd
      have hcr : 4096 ≤ cr ∧ cr ≤ maxLen := by
        obtain ⟨_, _, h1, h2, _⟩ := r3
        rw [Hbl.out] at h1
        exact ⟨h1, h2⟩
      clear K r3 b3 x3
      obtain ⟨hcr1, hcr2⟩ := hcr
      have K3h : Hid (Kept w w3 g gs C D gf vf) := K3
      have Hrb : Hid (Rd w3 (some ⟨gr, 0, none⟩) b) := rb
      obtain ⟨pc, hpc⟩ : ∃ pc : Nat, pc = partly C D k := ⟨_, rfl⟩
      rw [← hpc] at hp1 Hpk
      rw [← hpc]
      clear K3 rb hpc
      have cgs := (Hpile.out w3 K3h.out).1
      go_wp2_with fail
      go_loopw [15, 16] (fun v i wr => ∃ j : Nat, j ≤ L ∧ v = .bool (anyW b ys j) ∧ i = .int .i64 j ∧ w3 = wr) (fun _ i _ => L - (intOf i).toNat)
      case atStart => exact ⟨0, by omega, rfl, rfl, rfl⟩
      case round =>
        obtain ⟨j, hj, rfl, rfl, rfl⟩ := hrel
        by_cases hjl : j < L
        · have hjy : j < ys.length := by rw [← HL.out]; exact hjl
          have hsucc : Hid _ := anyW_succ b ys j hjy
          obtain ⟨p, c, cj, hc1, hc2, rj⟩ := (Hpile.out w3 K3h.out).2 j _ (List.getElem?_eq_getElem hjy)
          have hyl := Hyk.out _ (List.getElem_mem hjy)
          generalize (ys[j]'hjy) = y at hsucc rj hyl
          have cS := same_at cr c 4096 4096 _ _ b y w3 Hbl.out hyl Hrb.out rj
          clear hyl rj hjy
          cases hw : anyW b ys j with
          | true =>
            clear cS
            go_wp2_with fail
            go_roundw
            case rel => exact ⟨j + 1, by omega, by rw [hsucc.out, hw]; rfl, by go_num, trivial⟩
            case measure => simp [intOf]; omega
          | false =>
            go_wp2_with fail
            refine cS.mono ?_
            rintro e w4 ⟨rfl, rfl⟩
            clear cS
            go_wp2_with fail
            go_roundw
            case rel => exact ⟨j + 1, by omega, by rw [hsucc.out, hw]; rfl, by go_num, trivial⟩
            case measure => simp [intOf]; omega
        · have hjL : j = L := by omega
          subst j
          go_upto_if 74 with fail
          go_cut [11, 15] from 35 to 115 (fun p _ u => p = .int .i64 (partly C D (k + 1) : Nat) ∧ w3 = u)
          case first =>
            have hpk := Hpk.out
            cases hw : anyW b ys L with
            | true =>
              rw [hw, if_pos rfl] at hpk
              have Hq : Hid _ := hpk
              clear hpk
              go_wp2_with fail
              go_meet
              case rel => exact ⟨by rw [Hq.out]; rfl, rfl⟩
            | false =>
              rw [hw, if_neg (by simp)] at hpk
              have Hq : Hid _ := hpk
              clear hpk
              go_wp2_with fail
              go_meet
              case rel => exact ⟨by rw [Hq.out]; push_cast; rfl, rfl⟩
          case rest =>
            obtain ⟨rfl, rfl⟩ := hcut
            clear cgs
            go_wp2_with fail
            go_loopw [17] (fun i wr => ∃ s : Nat, s ≤ 8 ∧ i = .int .i64 s ∧ Kept w wr g gs C D gf vf ∧ Rd wr (some ⟨gr, 0, none⟩) b) (fun i _ => 8 - (intOf i).toNat)
            case atStart => exact ⟨0, by omega, rfl, K3h.out, Hrb.out⟩
            case round =>
              clear K3h Hrb
              obtain ⟨s, hs, rfl, K, rb⟩ := hrel
              by_cases hs8 : s < 8
              · have hs82 : (s : Int) < 8 := by omega
                obtain ⟨S0, hS0⟩ : ∃ S0 : Nat, S0 = s * 512 := ⟨_, rfl⟩
                have hS1 : (s : Int) * 512 = (S0 : Int) := by omega
                have hS2 : ((s : Int) + 1) * 512 = (S0 : Int) + 512 := by omega
                have hS3 : S0 ≤ 3584 := by omega
                have HS0 : Hid _ := hS0
                have K4 : Hid (Kept w wr g gs C D gf vf) := K
                have R4 : Hid (Rd wr (some ⟨gr, 0, none⟩) b) := rb
                clear hS0 K rb
                go_wp2_with fail
                go_loopw [18, 19] (fun v i wr => ∃ j : Nat, j ≤ L ∧ v = .bool (anyS b s ys j) ∧ i = .int .i64 j ∧ Kept w wr g gs C D gf vf ∧ Rd wr (some ⟨gr, 0, none⟩) b) (fun _ i _ => L - (intOf i).toNat)
                case atStart => exact ⟨0, by omega, rfl, rfl, K4.out, R4.out⟩
                case round =>
                  clear K4 R4
                  obtain ⟨j, hj, rfl, rfl, K, rb⟩ := hrel
                  have cgs := (Hpile.out wr K).1
                  by_cases hjl : j < L
                  · have hjy : j < ys.length := by rw [← HL.out]; exact hjl
                    have hsucc : Hid _ := anyS_succ b s ys j hjy
                    obtain ⟨p, c, cj, hc1, hc2, rj⟩ := (Hpile.out wr K).2 j _ (List.getElem?_eq_getElem hjy)
                    have hyl := Hyk.out _ (List.getElem_mem hjy)
                    generalize (ys[j]'hjy) = y at hsucc rj hyl
                    have cS : ∀ q, Calls Try.prog 29 #[.slice (some ⟨gr, S0, none⟩) 512 (cr - S0), .slice (some ⟨p, S0, none⟩) 512 (c - S0)] (wr.drewN q) fun e w' => e = .returned (.bool (sc b s == sc y s)) ∧ w' = wr.drewN q := fun q => by
                      have r1 := sc_rd rb s Hbl.out hs8
                      have r2 := sc_rd rj s hyl hs8
                      rw [Nat.zero_add, ← HS0.out] at r1 r2
                      refine (same_at (cr - S0) (c - S0) 512 512 _ _ _ _ (wr.drewN q) (sc_length b s Hbl.out hs8) (sc_length y s hyl hs8) r1 r2).mono ?_
                      rintro e w' ⟨h1, h2⟩
                      exact ⟨h1, h2.symm⟩
                    have HcS : Hid _ := cS
                    have K4 : Hid (Kept w wr g gs C D gf vf) := K
                    have R4 : Hid (Rd wr (some ⟨gr, 0, none⟩) b) := rb
                    clear hyl rj hjy cS K rb
                    cases hw : anyS b s ys j with
                    | true =>
                      go_upto_region 25 with fail
                      go_quiet (fail)
                      have K5 := Kept.below K4.out (below_drawn wr nq)
                      have R5 : Rd (wr.drewN nq) (some ⟨gr, 0, none⟩) b := R4.out
                      generalize wr.drewN nq = X at K5 R5 ⊢
                      clear K4 R4 HcS cgs cj
                      go_wp2
                      go_roundw
                      case rel => exact ⟨j + 1, by omega, by rw [hsucc.out, hw]; rfl, by go_num, K5, R5⟩
                      case measure => simp [intOf]; omega
                    | false =>
                      go_upto_region 25 with fail
                      go_quiet (exact Calls.quiet_of_same (HcS.out _))
                      have K5 := Kept.below K4.out (below_drawn wr nq)
                      have R5 : Rd (wr.drewN nq) (some ⟨gr, 0, none⟩) b := R4.out
                      generalize wr.drewN nq = X at K5 R5 ⊢
                      clear K4 R4 HcS cgs cj
                      go_wp2
                      go_roundw
                      case rel => exact ⟨j + 1, by omega, by rw [hsucc.out, hw]; rfl, by go_num, K5, R5⟩
                      case measure => simp [intOf]; omega
                  · have hjL : j = L := by omega
                    subst j
                    have hfound := Hsk.out s hs8
                    rw [hfound]
                    go_wp2
                    go_roundw
                    case rel => exact ⟨s + 1, by omega, by go_num, K, rb⟩
                    case measure => simp [intOf]; omega
              · have hs88 : s = 8 := by omega
                subst s
                go_wp2
                go_roundw
                case rel => exact ⟨k + 1, by omega, rfl, by go_num, K⟩
                case measure => simp [intOf]; omega
    · have hk4 : k = 4 := by omega
      rw [hk4]
      have hp := hpar.out
      obtain ⟨pc, hpc⟩ : ∃ pc : Nat, pc = partly C D 4 := ⟨_, rfl⟩
      rw [← hpc] at hp ⊢
      have hp2 : (pc : Int) ≤ 1 := by omega
      have B := K.bel
      clear K hpc
      go_wp2_with fail
      refine (awake_any _).mono ?_
      rintro e w9 ⟨rfl, b9⟩
      have B9 := B.trans (b9.mono B.size)
      go_wp2_with fail
      go_ret
      exact ⟨rfl, B9⟩
end Go.Proofs.Ytagnmmapnpcijaa
