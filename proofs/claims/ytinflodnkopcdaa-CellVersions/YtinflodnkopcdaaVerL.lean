/-
  CellVersions' walk.
-/
import Derived.Test.YtinflodnkopcdaaVerS
import Derived.Deep.CutBlock
namespace Go.Proofs.Ytinflodnkopcdaa
open Go.RowKit
/-- what a round has behind its call -/
def VR (u : World) (w : World) (B m vb nb ob : Nat) (S : M) (x : Op5) (v13 : Value) : Prop := ∃ S' d, v13 = .int .i64 d ∧ Stp S S' d x.i x.v ∧ VS u B m vb nb S' S.C ∧ Box u ob #[.int .i64 x.kind, .int .i64 x.i, .int .i64 x.owner, .int .i64 x.v, .int .i64 x.ver] 38 ∧ Below B w u
set_option maxRecDepth 100000 in
set_option maxHeartbeats 8000000 in
theorem versions_at (a0 : Option Addr) (n0 c0 : Nat) (os : List Op5) (w : World) (hl : os.length = n0) (hr : RdOps w a0 os) (hn : n0 ≤ 9223372036854775807) :
    Calls Try.prog 6 #[.slice a0 n0 c0] w fun r w' => r = .returned (.bool true) ∧ Below w.heap.size w w' := by
  obtain ⟨B, hB⟩ : ∃ B, B = w.heap.size := ⟨_, rfl⟩
  have cN := new_at w 6 (by omega) (by omega)
  have HB : Hid (B = w.heap.size) := hB
  have HR : Hid (∀ (u : World), Below B w u → ∀ k, k < n0 → ∃ b o, ∃ x : Op5, a0 = some ⟨b, o, none⟩ ∧ u.cell? ⟨b, o + k * 5, none⟩ = some (.int .i64 x.kind) ∧ u.cell? ⟨b, o + k * 5 + 1, none⟩ = some (.int .i64 x.i) ∧ u.cell? ⟨b, o + k * 5 + 2, none⟩ = some (.int .i64 x.owner) ∧ u.cell? ⟨b, o + k * 5 + 3, none⟩ = some (.int .i64 x.v) ∧ u.cell? ⟨b, o + k * 5 + 4, none⟩ = some (.int .i64 x.ver)) := fun u hu k hk => by
    rw [hB] at hu
    obtain ⟨b, o, x, h1, _, h2⟩ := hr.at u hu k (by omega)
    exact ⟨b, o, x, h1, h2⟩
  rw [← hB] at cN
  clear hr hl hB
  have hn' : (n0 : Int) ≤ 9223372036854775807 := by omega
  go_enter Try.func6, Try.ntmps6
  go_wp2_with fail
  refine Calls.mono cN ?_
  rintro e w1 ⟨m, rfl, i1, b1⟩
  have hs1 : B ≤ w1.heap.size := i1.hB
  have V1 := VS.start i1
  have B1 := ((b1.alloc hs1 (.cells #[.int .i64 0, .int .i64 0, .int .i64 0, .int .i64 0, .int .i64 0, .int .i64 0] 56)).alloc (by simp; omega) (.cells #[.int .i64 0, .int .i64 0, .int .i64 0, .int .i64 0, .int .i64 0, .int .i64 0] 57))
  obtain ⟨vb, hvb⟩ : ∃ vb, vb = w1.heap.size := ⟨_, rfl⟩
  obtain ⟨nb, hnb⟩ : ∃ nb, nb = w1.heap.size + 1 := ⟨_, rfl⟩
  rw [← hnb, ← hvb] at V1
  have HV : Hid (VS ((w1.alloc (.cells #[.int .i64 0, .int .i64 0, .int .i64 0, .int .i64 0, .int .i64 0, .int .i64 0] 56)).alloc (.cells #[.int .i64 0, .int .i64 0, .int .i64 0, .int .i64 0, .int .i64 0, .int .i64 0] 57)) B m vb nb (M0 6) (M0 6).C) := V1
  have HB1 : Hid (Below B w ((w1.alloc (.cells #[.int .i64 0, .int .i64 0, .int .i64 0, .int .i64 0, .int .i64 0, .int .i64 0] 56)).alloc (.cells #[.int .i64 0, .int .i64 0, .int .i64 0, .int .i64 0, .int .i64 0, .int .i64 0] 57))) := B1
  have Hvb : Hid (vb = w1.heap.size) := hvb
  have Hnb : Hid (nb = w1.heap.size + 1) := hnb
  clear cN b1 i1 hs1 V1 B1 hvb hnb
  unfold ptr at *
  go_wp2_with fail
  rw [← Hnb.out, ← Hvb.out]
  go_loopw [7] (fun i u => ∃ k : Nat, k ≤ 200 ∧ k ≤ n0 ∧ i = .int .i64 (k : Int) ∧ (∃ S, VS u B m vb nb S S.C) ∧ Below B w u) (fun i _ => 200 - (intOf i).toNat)
  case atStart => exact ⟨0, by omega, by omega, rfl, ⟨_, HV.out⟩, HB1.out⟩
  case round =>
    obtain ⟨k, hk200, hkn, rfl, ⟨S, hV⟩, hb⟩ := hrel
    obtain ⟨wa, hwa⟩ : ∃ wa, wa = wr := ⟨_, rfl⟩
    subst hwa
    have HVa : Hid (VS wa B m vb nb S S.C) := hV
    have HBa : Hid (Below B w wa) := hb
    clear HV HB1 Hvb Hnb
    by_cases hgo : k < n0 ∧ k < 200
    · obtain ⟨hg1, hg2⟩ := hgo
      have hi1 : (k : Int) < (n0 : Int) := by omega
      have hi2 : (k : Int) < 200 := by omega
      obtain ⟨b, o, x, rfl, x0, x1, x2, x3, x4⟩ := HR.out wa hb k hg1
      have bx := Box.new wa #[.int .i64 x.kind, .int .i64 x.i, .int .i64 x.owner, .int .i64 x.v, .int .i64 x.ver] 38
      have hbl := (Below.refl wa.heap.size wa).alloc (Nat.le_refl _) (.cells #[.int .i64 x.kind, .int .i64 x.i, .int .i64 x.owner, .int .i64 x.v, .int .i64 x.ver] 38)
      have hV2 := hV.below hbl
      obtain ⟨ob, hob⟩ : ∃ ob, ob = wa.heap.size := ⟨_, rfl⟩
      rw [← hob] at bx
      have Hob : Hid (ob = wa.heap.size) := hob
      obtain ⟨wb, hwb⟩ : ∃ wb, wb = wa.alloc (.cells #[.int .i64 x.kind, .int .i64 x.i, .int .i64 x.owner, .int .i64 x.v, .int .i64 x.ver] 38) := ⟨_, rfl⟩
      have Hwb : Hid (wb = wa.alloc (.cells #[.int .i64 x.kind, .int .i64 x.i, .int .i64 x.owner, .int .i64 x.v, .int .i64 x.ver] 38)) := hwb
      rw [← hwb] at hbl hV2 bx
      have HBb : Hid (Below B w wb) := hb.trans (hbl.mono hV.is.hB)
      have HVb : Hid (VS wb B m vb nb S S.C) := hV2
      have cL := load_at hV2.is x.i
      have hown : Hid (∀ c, S.cell? x.i = some c → (M.load S x.i).2.2.1 = c.own) := fun c hc => by simp [M.load, hc]
      unfold ptr at cL
      generalize M.load S x.i = ld at cL hown
      obtain ⟨ld0, ld1, ld2, ld3⟩ := ld
      have d0 := bx.cell 0
      have d1 := bx.cell 1
      have d2 := bx.cell 2
      have d3 := bx.cell 3
      have d4 := bx.cell 4
      have HX : Hid (Box wb ob #[.int .i64 x.kind, .int .i64 x.i, .int .i64 x.owner, .int .i64 x.v, .int .i64 x.ver] 38) := bx
      simp only [List.getElem?_toArray, List.getElem?_cons_zero, List.getElem?_cons_succ] at d0 d1 d2 d3 d4
      clear hV hV2 hbl bx hb hob hwb HVa HBa
      simp only at cL hown
      obtain ⟨xk, xi, xo, xv, xn⟩ := x
      simp only at x0 x1 x2 x3 x4 cL hown d0 d1 d2 d3 d4 HX Hwb
      go_wp2_with fail
      rw [← Hwb.out, ← Hob.out]
      refine Calls.mono cL ?_
      rintro e wx ⟨rfl, nq, rfl⟩
      have hdr := Below.drewN (Below.refl wb.heap.size wb) nq
      have HVc : Hid (VS (wb.drewN nq) B m vb nb S S.C) := HVb.out.below hdr
      have HBc : Hid (Below B w (wb.drewN nq)) := Below.drewN HBb.out nq
      have HXc : Hid (Box (wb.drewN nq) ob #[.int .i64 xk, .int .i64 xi, .int .i64 xo, .int .i64 xv, .int .i64 xn] 38) := HX.out.below hdr HX.out.lt
      have e0 : (wb.drewN nq).cell? ⟨ob, 0, none⟩ = some (.int .i64 xk) := HXc.out.cell 0
      have e1 : (wb.drewN nq).cell? ⟨ob, 1, none⟩ = some (.int .i64 xi) := HXc.out.cell 1
      have e2 : (wb.drewN nq).cell? ⟨ob, 2, none⟩ = some (.int .i64 xo) := HXc.out.cell 2
      have e3 : (wb.drewN nq).cell? ⟨ob, 3, none⟩ = some (.int .i64 xv) := HXc.out.cell 3
      have e4 : (wb.drewN nq).cell? ⟨ob, 4, none⟩ = some (.int .i64 xn) := HXc.out.cell 4
      obtain ⟨wc, hwc⟩ : ∃ wc, wc = wb.drewN nq := ⟨_, rfl⟩
      rw [← hwc] at HVc HBc HXc e0 e1 e2 e3 e4 ⊢
      clear cL hdr HVb HBb HX d0 d1 d2 d3 d4 x0 x1 x2 x3 x4 hwc Hwb Hob
      go_upto_block 2 with fail
      go_cut [13] from 50 to 99 (fun v13 u => VR u w B m vb nb ob S ⟨xk, xi, xo, xv, xn⟩ v13)
      case first =>
        by_cases k0 : xk = 0
        · as_aux_lemma =>
          have hvv := HVc.out.gd.hv xi
          have c := adv_at HVc.out.is
          have HS : Hid (Stp S S.adv.1 2 xi xv ∧ S.adv.1.C.length = S.C.length ∧ Gd S.adv.1) := ⟨Stp.adv HVc.out.gd 2 xi xv, M.adv_len S, Gd.adv HVc.out.gd⟩
          subst k0
          clear hvv
          unfold ptr at c
          go_wp2_with fail
          refine Calls.mono c ?_
          rintro e wd ⟨rfl, t⟩
          have HF : Hid (VR wd w B m vb nb ob S ⟨0, xi, xo, xv, xn⟩ (.int .i64 2)) := ⟨S.adv.1, 2, rfl, HS.out.1, HVc.out.to t HS.out.2.1 HS.out.2.2, t.kt _ _ _ HXc.out (by decide), HBc.out.trans t.bel⟩
          clear t c
          go_wp2_with fail
          go_meet
          case rel => exact HF.out
        by_cases k2 : xk = 2
        · as_aux_lemma =>
          have hvv := HVc.out.gd.hv xi
          have c := fill_at HVc.out.is xi xv hvv
          have HS : Hid (Stp S (S.fill xi (.int .i64 xv)).1 (S.fill xi (.int .i64 xv)).2 xi xv ∧ (S.fill xi (.int .i64 xv)).1.C.length = S.C.length ∧ Gd (S.fill xi (.int .i64 xv)).1) := ⟨Stp.fill HVc.out.gd xi xv, M.fill_len S _ _, Gd.fill HVc.out.gd _ _⟩
          subst k2
          clear hvv
          unfold ptr at c
          go_wp2_with fail
          refine Calls.mono c ?_
          rintro e wd ⟨rfl, t⟩
          have HF : Hid (VR wd w B m vb nb ob S ⟨2, xi, xo, xv, xn⟩ (.int .i64 (S.fill xi (.int .i64 xv)).2)) := ⟨(S.fill xi (.int .i64 xv)).1, (S.fill xi (.int .i64 xv)).2, rfl, HS.out.1, HVc.out.to t HS.out.2.1 HS.out.2.2, t.kt _ _ _ HXc.out (by decide), HBc.out.trans t.bel⟩
          clear t c
          go_wp2_with fail
          go_meet
          case rel => exact HF.out
        by_cases k3 : xk = 3
        · as_aux_lemma =>
          have hvv := HVc.out.gd.hv xi
          have c := lock_at HVc.out.is xi xo
          have HS : Hid (Stp S (S.lock xi xo).1 2 xi xv ∧ (S.lock xi xo).1.C.length = S.C.length ∧ Gd (S.lock xi xo).1) := ⟨Stp.lock HVc.out.gd xi xo 2 xi xv rfl, M.lock_len S _ _, Gd.lock HVc.out.gd _ _⟩
          subst k3
          clear hvv
          unfold ptr at c
          go_wp2_with fail
          refine Calls.mono c ?_
          rintro e wd ⟨rfl, t⟩
          have HF : Hid (VR wd w B m vb nb ob S ⟨3, xi, xo, xv, xn⟩ (.int .i64 2)) := ⟨(S.lock xi xo).1, 2, rfl, HS.out.1, HVc.out.to t HS.out.2.1 HS.out.2.2, t.kt _ _ _ HXc.out (by decide), HBc.out.trans t.bel⟩
          clear t c
          go_wp2_with fail
          go_meet
          case rel => exact HF.out
        by_cases k4 : xk = 4
        · as_aux_lemma =>
          have hvv := HVc.out.gd.hv xi
          have c := lock_at HVc.out.is xi xo
          have HS : Hid (Stp S (S.lock xi xo).1 2 xi xv ∧ (S.lock xi xo).1.C.length = S.C.length ∧ Gd (S.lock xi xo).1) := ⟨Stp.lock HVc.out.gd xi xo 2 xi xv rfl, M.lock_len S _ _, Gd.lock HVc.out.gd _ _⟩
          subst k4
          clear hvv
          unfold ptr at c
          go_wp2_with fail
          refine Calls.mono c ?_
          rintro e wd ⟨rfl, t⟩
          have HF : Hid (VR wd w B m vb nb ob S ⟨4, xi, xo, xv, xn⟩ (.int .i64 2)) := ⟨(S.lock xi xo).1, 2, rfl, HS.out.1, HVc.out.to t HS.out.2.1 HS.out.2.2, t.kt _ _ _ HXc.out (by decide), HBc.out.trans t.bel⟩
          clear t c
          go_wp2_with fail
          go_meet
          case rel => exact HF.out
        by_cases k5 : xk = 5
        · as_aux_lemma =>
          have hvv := HVc.out.gd.hv xi
          have c := unlock_at HVc.out.is xi xo
          have HS : Hid (Stp S (S.unlock xi xo).1 2 xi xv ∧ (S.unlock xi xo).1.C.length = S.C.length ∧ Gd (S.unlock xi xo).1) := ⟨Stp.unlock HVc.out.gd xi xo 2 xi xv rfl, M.unlock_len S _ _, Gd.unlock HVc.out.gd _ _⟩
          subst k5
          clear hvv
          unfold ptr at c
          go_wp2_with fail
          refine Calls.mono c ?_
          rintro e wd ⟨rfl, t⟩
          have HF : Hid (VR wd w B m vb nb ob S ⟨5, xi, xo, xv, xn⟩ (.int .i64 2)) := ⟨(S.unlock xi xo).1, 2, rfl, HS.out.1, HVc.out.to t HS.out.2.1 HS.out.2.2, t.kt _ _ _ HXc.out (by decide), HBc.out.trans t.bel⟩
          clear t c
          go_wp2_with fail
          go_meet
          case rel => exact HF.out
        by_cases k6 : xk = 6
        · as_aux_lemma =>
          have hvv := HVc.out.gd.hv xi
          have c := publish_at HVc.out.is xi xo xv xn hvv
          have HS : Hid (Stp S (S.publish xi xo (.int .i64 xv) xn).1 (S.publish xi xo (.int .i64 xv) xn).2 xi xv ∧ (S.publish xi xo (.int .i64 xv) xn).1.C.length = S.C.length ∧ Gd (S.publish xi xo (.int .i64 xv) xn).1) := ⟨Stp.publish HVc.out.gd xi xo xv xn, M.publish_len S _ _ _ _, Gd.publish HVc.out.gd _ _ _ _⟩
          subst k6
          clear hvv
          unfold ptr at c
          go_wp2_with fail
          refine Calls.mono c ?_
          rintro e wd ⟨rfl, t⟩
          have HF : Hid (VR wd w B m vb nb ob S ⟨6, xi, xo, xv, xn⟩ (.int .i64 (S.publish xi xo (.int .i64 xv) xn).2)) := ⟨(S.publish xi xo (.int .i64 xv) xn).1, (S.publish xi xo (.int .i64 xv) xn).2, rfl, HS.out.1, HVc.out.to t HS.out.2.1 HS.out.2.2, t.kt _ _ _ HXc.out (by decide), HBc.out.trans t.bel⟩
          have hx2 : wd.cell? ⟨ob, 2, none⟩ = some (.int .i64 xo) := (t.kt _ _ _ HXc.out (by decide)).cell 2
          have HO : Hid ((S.publish xi xo (.int .i64 xv) xn).2 = 0 → ld2 = xo) := fun hz => by
            obtain ⟨cc, h1, h2⟩ := M.publish_own xi xo (.int .i64 xv) xn hz
            rw [hown.out cc h1, h2]
          generalize (S.publish xi xo (.int .i64 xv) xn).2 = q at HF HO ⊢
          clear t c HS
          by_cases hq : q = 0
          · subst hq
            have hlo : ld2 = xo := HO.out rfl
            subst hlo
            clear HO hown
            go_wp2_with fail
            go_meet
            case rel => exact HF.out
          · have hqb : (q == 0) = false := by simpa using hq
            clear HO hown
            go_wp2_with fail
            go_meet
            case rel => exact HF.out
        by_cases k7 : xk = 7
        · as_aux_lemma =>
          have hvv := HVc.out.gd.hv xi
          have c := publish_at HVc.out.is xi xo xv xn hvv
          have HS : Hid (Stp S (S.publish xi xo (.int .i64 xv) xn).1 (S.publish xi xo (.int .i64 xv) xn).2 xi xv ∧ (S.publish xi xo (.int .i64 xv) xn).1.C.length = S.C.length ∧ Gd (S.publish xi xo (.int .i64 xv) xn).1) := ⟨Stp.publish HVc.out.gd xi xo xv xn, M.publish_len S _ _ _ _, Gd.publish HVc.out.gd _ _ _ _⟩
          subst k7
          clear hvv
          unfold ptr at c
          go_wp2_with fail
          refine Calls.mono c ?_
          rintro e wd ⟨rfl, t⟩
          have HF : Hid (VR wd w B m vb nb ob S ⟨7, xi, xo, xv, xn⟩ (.int .i64 (S.publish xi xo (.int .i64 xv) xn).2)) := ⟨(S.publish xi xo (.int .i64 xv) xn).1, (S.publish xi xo (.int .i64 xv) xn).2, rfl, HS.out.1, HVc.out.to t HS.out.2.1 HS.out.2.2, t.kt _ _ _ HXc.out (by decide), HBc.out.trans t.bel⟩
          have hx2 : wd.cell? ⟨ob, 2, none⟩ = some (.int .i64 xo) := (t.kt _ _ _ HXc.out (by decide)).cell 2
          have HO : Hid ((S.publish xi xo (.int .i64 xv) xn).2 = 0 → ld2 = xo) := fun hz => by
            obtain ⟨cc, h1, h2⟩ := M.publish_own xi xo (.int .i64 xv) xn hz
            rw [hown.out cc h1, h2]
          generalize (S.publish xi xo (.int .i64 xv) xn).2 = q at HF HO ⊢
          clear t c HS
          by_cases hq : q = 0
          · subst hq
            have hlo : ld2 = xo := HO.out rfl
            subst hlo
            clear HO hown
            go_wp2_with fail
            go_meet
            case rel => exact HF.out
          · have hqb : (q == 0) = false := by simpa using hq
            clear HO hown
            go_wp2_with fail
            go_meet
            case rel => exact HF.out
        as_aux_lemma =>
        have HF : Hid (VR wc w B m vb nb ob S ⟨xk, xi, xo, xv, xn⟩ (.int .i64 2)) := ⟨S, 2, rfl, Stp.same HVc.out.gd _ _ _, HVc.out, HXc.out, HBc.out⟩
        go_wp2_with fail
        go_meet
        case rel => exact HF.out
      case rest =>
        obtain ⟨S', d, rfl, hst, hV', hX', hB'⟩ := hcut
        simp only at hst hX'
        have HST : Hid (Stp S S' d xi xv) := hst
        have HV0 : Hid (VS wc B m vb nb S' (mix 0 S.C S'.C)) := by rw [mix_zero]; exact hV'
        have HX0 : Hid (Box wc ob #[.int .i64 xk, .int .i64 xi, .int .i64 xo, .int .i64 xv, .int .i64 xn] 38) := hX'
        have HB0 : Hid (Below B w wc) := hB'
        have HL : Hid (S.C.length = 6) := HVc.out.six
        have HG : Hid (Gd S) := HVc.out.gd
        clear hst hV' hX' hB' HVc HBc HXc hown e0 e1 e2 e3 e4
        go_wp2_with fail
        go_loopw [100] (fun c u => ∃ i : Nat, i ≤ 6 ∧ c = .int .i64 (i : Int) ∧ VS u B m vb nb S' (mix i S.C S'.C) ∧ Box u ob #[.int .i64 xk, .int .i64 xi, .int .i64 xo, .int .i64 xv, .int .i64 xn] 38 ∧ Below B w u) (fun c _ => 6 - (intOf c).toNat)
        case atStart => exact ⟨0, by omega, rfl, HV0.out, HX0.out, HB0.out⟩
        case round =>
          obtain ⟨i, hi6, rfl, hV, hX, hBb⟩ := hrel
          obtain ⟨wd, hwd⟩ : ∃ wd, wd = wr := ⟨_, rfl⟩
          subst hwd
          have HVd : Hid (VS wd B m vb nb S' (mix i S.C S'.C)) := hV
          have HBd : Hid (Below B w wd) := hBb
          have HXd : Hid (Box wd ob #[.int .i64 xk, .int .i64 xi, .int .i64 xo, .int .i64 xv, .int .i64 xn] 38) := hX
          clear HV0 HX0 HB0 hBb hX
          by_cases hil : i < 6
          · have hii : (i : Int) < 6 := by omega
            have hl' : S'.C.length = 6 := hV.six
            have hl0 : S.C.length = 6 := HL.out
            obtain ⟨c, hc⟩ : ∃ c, S.C[i]? = some c := ⟨_, List.getElem?_eq_getElem (by omega)⟩
            obtain ⟨c', hc'⟩ : ∃ c', S'.C[i]? = some c' := ⟨_, List.getElem?_eq_getElem (by omega)⟩
            have hcm : (mix i S.C S'.C)[i]? = some c := by rw [mix_get (by omega) (by omega)]; exact hc
            obtain ⟨s1, s2, s3⟩ := HST.out.each i c c' hc hc'
            have cL := load_at hV.is (i : Int)
            have eL : M.load S' (i : Int) = (c'.v, c'.ver, c'.own, 0) := by simp [M.load, M.cell?, hc']
            rw [eL] at cL
            have HM : Hid ((mix i S.C S'.C).set i c' = mix (i + 1) S.C S'.C) := mix_set (by omega) (by omega) hc'
            obtain ⟨y', hy'⟩ := hV.gd.num c' (List.mem_of_getElem? hc')
            have HC' : Hid (c'.v = .int .i64 y') := hy'
            obtain ⟨y, hy⟩ := HG.out.num c (List.mem_of_getElem? hc)
            obtain ⟨q0, q1, f0, f1⟩ := hV.cells hcm
            rw [hy] at q0
            rw [hy'] at cL
            have HS3 : Hid (y' ≠ y → (i : Int) = xi ∧ d = 0 ∧ y' = xv ∧ (c'.ver = c.ver → c'.ver = 0)) := fun hne => by
              obtain ⟨t1, t2, t3, t4⟩ := s3 (by rw [hy, hy']; intro e; injection e with _ e; exact hne e)
              rw [hy'] at t3
              injection t3 with _ t3
              exact ⟨t1, t2, t3, t4⟩
            obtain ⟨n, hnn⟩ : ∃ n, n = c.ver := ⟨_, rfl⟩
            obtain ⟨n', hnn'⟩ : ∃ n', n' = c'.ver := ⟨_, rfl⟩
            obtain ⟨kk, hkk⟩ : ∃ kk, kk = S'.k := ⟨_, rfl⟩
            have cK := clock_at hV.is
            rw [← hkk] at s2 cK
            rw [← hnn] at q1 s1 HS3
            rw [← hnn'] at s1 s2 cL HS3
            have HP : Hid (∀ u, VS u B m vb nb S' (mix i S.C S'.C) → VS ((u.setCell ⟨vb, i, none⟩ (.int .i64 y')).setCell ⟨nb, i, none⟩ (.int .i64 n')) B m vb nb S' (mix (i + 1) S.C S'.C) ∧ Below B u ((u.setCell ⟨vb, i, none⟩ (.int .i64 y')).setCell ⟨nb, i, none⟩ (.int .i64 n'))) := fun u hu => by
              have h1 := hu.put i c'
              rw [HM.out, hy', ← hnn'] at h1
              exact ⟨h1, hu.put_below i _ _⟩
            have HQ : Hid (∀ u, VS u B m vb nb S' (mix i S.C S'.C) → u.cell? ⟨vb, i, none⟩ = some (.int .i64 y) ∧ u.cell? ⟨nb, i, none⟩ = some (.int .i64 n) ∧ u.frozen? ⟨vb, i, none⟩ = false ∧ u.frozen? ⟨nb, i, none⟩ = false) := fun u hu => by
              have h1 := hu.cells hcm
              rw [hy, ← hnn] at h1
              exact h1
            have HK : Hid (∀ u, VS u B m vb nb S' (mix i S.C S'.C) → Calls Try.prog 23 #[.pointer (some ⟨m, 0, none⟩)] u fun r w' => r = .returned (.int .i64 kk) ∧ w' = u) := fun u hu => by
              have h1 := clock_at hu.is
              rw [← hkk] at h1
              exact h1
            have hvn : vb ≠ nb := hV.bv.ne hV.bn (by decide)
            clear eL s3 hy hy' hnn hnn' hkk hV hc hc' hcm HM HC' hl' hl0 cK q0 q1 f0 f1
            unfold ptr at cL
            go_wp2_with fail
            refine Calls.mono cL ?_
            rintro e wx ⟨rfl, nq, rfl⟩
            have hdr := Below.drewN (Below.refl wd.heap.size wd) nq
            have HVe : Hid (VS (wd.drewN nq) B m vb nb S' (mix i S.C S'.C)) := HVd.out.below hdr
            have HBe : Hid (Below B w (wd.drewN nq)) := Below.drewN HBd.out nq
            have HXe : Hid (Box (wd.drewN nq) ob #[.int .i64 xk, .int .i64 xi, .int .i64 xo, .int .i64 xv, .int .i64 xn] 38) := HXd.out.below hdr HXd.out.lt
            obtain ⟨we, hwe⟩ : ∃ we, we = wd.drewN nq := ⟨_, rfl⟩
            rw [← hwe] at HVe HBe HXe ⊢
            clear cL hdr HVd HBd HXd hwe
            obtain ⟨q0, q1, f0, f1⟩ := HQ.out we HVe.out
            have cK := HK.out we HVe.out
            have e1 : we.cell? ⟨ob, 1, none⟩ = some (.int .i64 xi) := HXe.out.cell 1
            have e3 : we.cell? ⟨ob, 3, none⟩ = some (.int .i64 xv) := HXe.out.cell 3
            have r1 : (we.setCell ⟨vb, i, none⟩ (.int .i64 y')).frozen? ⟨nb, i, none⟩ = false := by
              have k1 : Kt (fun t => t ≠ 56) we (we.setCell ⟨vb, i, none⟩ (.int .i64 y')) := (Kt.refl _ _).setCell HVe.out.bv (by simp) i _
              exact (k1 _ _ _ HVe.out.bn (by decide)).frozen i
            have r2 : (we.setCell ⟨vb, i, none⟩ (.int .i64 y')).cell? ⟨nb, i, none⟩ = some (.int .i64 n) := by
              have k1 : Kt (fun t => t ≠ 56) we (we.setCell ⟨vb, i, none⟩ (.int .i64 y')) := (Kt.refl _ _).setCell HVe.out.bv (by simp) i _
              have h1 := (k1 _ _ _ HVe.out.bn (by decide)).cell i
              rw [h1, ← HVe.out.bn.cell i]; exact q1
            obtain ⟨g1, g2⟩ := HP.out we HVe.out
            have HV3 : Hid (VS ((we.setCell ⟨vb, i, none⟩ (.int .i64 y')).setCell ⟨nb, i, none⟩ (.int .i64 n')) B m vb nb S' (mix (i + 1) S.C S'.C)) := g1
            have HB3 : Hid (Below B w ((we.setCell ⟨vb, i, none⟩ (.int .i64 y')).setCell ⟨nb, i, none⟩ (.int .i64 n'))) := HBe.out.trans g2
            have HX3 : Hid (Box ((we.setCell ⟨vb, i, none⟩ (.int .i64 y')).setCell ⟨nb, i, none⟩ (.int .i64 n')) ob #[.int .i64 xk, .int .i64 xi, .int .i64 xo, .int .i64 xv, .int .i64 xn] 38) := by
              have k1 : Kt (fun t => t ≠ 56) we (we.setCell ⟨vb, i, none⟩ (.int .i64 y')) := (Kt.refl _ _).setCell HVe.out.bv (by simp) i _
              have k2 : Kt (fun t => t ≠ 57) (we.setCell ⟨vb, i, none⟩ (.int .i64 y')) ((we.setCell ⟨vb, i, none⟩ (.int .i64 y')).setCell ⟨nb, i, none⟩ (.int .i64 n')) := (Kt.refl _ _).setCell (k1 _ _ _ HVe.out.bn (by decide)) (by simp) i _
              exact k2 _ _ _ (k1 _ _ _ HXe.out (by decide)) (by decide)
            clear g1 g2 HP HQ HK HVe HBe HXe
            go_wp2_with fail
            refine Calls.mono cK ?_
            rintro e wx ⟨rfl, hwx⟩
            subst wx
            clear cK
            go_upto_region 33 with fail
            go_cut [157] from 126 to 156 (fun v u => v = .bool false ∧ u = we)
            case first =>
              by_cases hyy : y' = y
              · as_aux_lemma =>
                subst hyy
                go_wp2_with fail
                go_meet
                case rel => exact ⟨rfl, rfl⟩
              · as_aux_lemma =>
                obtain ⟨t1, t2, t3, t4⟩ := HS3.out hyy
                subst t2 t3
                have hyb : (y' != y) = true := by simpa using hyy
                by_cases hvv : n' = n
                · have hz : n' = 0 := t4 hvv
                  subst hvv hz
                  clear t4 HS3
                  subst t1
                  go_wp2_with fail
                  go_meet
                  case rel => exact ⟨rfl, rfl⟩
                · have hvb : (n' == n) = false := by simpa using hvv
                  clear t4 HS3
                  subst t1
                  go_wp2_with fail
                  go_meet
                  case rel => exact ⟨rfl, rfl⟩
            case rest =>
              obtain ⟨rfl, rfl⟩ := hcut
              go_wp2_with fail
              go_roundw
              case rel => exact ⟨i + 1, by omega, by go_num, HV3.out, HX3.out, HB3.out⟩
              case measure => simp [intOf]; omega
          · have hi : i = 6 := by omega
            subst i
            have HV6 : Hid (VS wd B m vb nb S' S'.C) := by
              have h1 := HVd.out
              have e6 : mix 6 S.C S'.C = S'.C := by
                have := mix_all S.C S'.C (by rw [HL.out]; exact hV.six)
                rwa [HL.out] at this
              rwa [e6] at h1
            clear hV HVd HXd
            go_wp2_with fail
            go_roundw
            case rel => exact ⟨k + 1, by omega, by omega, by go_num, ⟨S', HV6.out⟩, HBd.out⟩
            case measure => simp [intOf]; omega
    · have cA := awake_at wa
      have hge : (n0 : Int) ≤ (k : Int) ∨ 200 ≤ (k : Int) := by omega
      clear hV hb HR
      by_cases hg : (k : Int) < (n0 : Int)
      · have hk2 : k = 200 := by omega
        subst k
        go_wp2_with fail
        refine Calls.mono cA ?_
        rintro e wx ⟨rfl, bx⟩
        clear cA
        go_wp2_with fail
        go_ret
        exact ⟨rfl, by rw [← HB.out]; exact HBa.out.trans (bx.mono HVa.out.is.hB)⟩
      · go_wp2_with fail
        refine Calls.mono cA ?_
        rintro e wx ⟨rfl, bx⟩
        clear cA
        go_wp2_with fail
        go_ret
        exact ⟨rfl, by rw [← HB.out]; exact HBa.out.trans (bx.mono HVa.out.is.hB)⟩
end Go.Proofs.Ytinflodnkopcdaa
