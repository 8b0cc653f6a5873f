/-
  CellOwners' walk.
-/
import Derived.Test.YtinflodnkopcdaaOwnS
import Derived.Deep.CutBlock
namespace Go.Proofs.Ytinflodnkopcdaa
open Go.RowKit
/-- what a round has behind its call -/
def OR (u : World) (w : World) (B m hb : Nat) : Prop := ∃ S', OS u B m hb S' S'.owns ∧ Below B w u
set_option maxRecDepth 100000 in
set_option maxHeartbeats 8000000 in
theorem owners_at (a0 : Option Addr) (n0 c0 : Nat) (os : List Op5) (w : World) (hl : os.length = n0) (hr : RdOps w a0 os) (hn : n0 ≤ 9223372036854775807) :
    Calls Try.prog 7 #[.slice a0 n0 c0] w fun r w' => r = .returned (.bool true) ∧ Below w.heap.size w w' := by
  obtain ⟨B, hB⟩ : ∃ B, B = w.heap.size := ⟨_, rfl⟩
  have cN := new_at w 6 (by omega) (by omega)
  have HB : Hid (B = w.heap.size) := hB
  have HR : Hid (∀ (u : World), Below B w u → ∀ k, k < n0 → ∃ b o, ∃ x : Op5, a0 = some ⟨b, o, none⟩ ∧ u.cell? ⟨b, o + k * 5, none⟩ = some (.int .i64 x.kind) ∧ u.cell? ⟨b, o + k * 5 + 1, none⟩ = some (.int .i64 x.i) ∧ u.cell? ⟨b, o + k * 5 + 2, none⟩ = some (.int .i64 x.owner) ∧ u.cell? ⟨b, o + k * 5 + 3, none⟩ = some (.int .i64 x.v) ∧ u.cell? ⟨b, o + k * 5 + 4, none⟩ = some (.int .i64 x.ver)) := fun u hu k hk => by
    rw [hB] at hu
    obtain ⟨b, o, x, h1, _, h2⟩ := hr.at u hu k (by omega)
    exact ⟨b, o, x, h1, h2⟩
  rw [← hB] at cN
  clear hr hl hB
  have hn' : (n0 : Int) ≤ 9223372036854775807 := by omega
  go_enter Try.func7, Try.ntmps7
  go_wp2_with fail
  refine Calls.mono cN ?_
  rintro e w1 ⟨m, rfl, i1, b1⟩
  have hs1 : B ≤ w1.heap.size := i1.hB
  have V1 := OS.start i1
  have B1 := (b1.alloc hs1 (.cells #[.int .i64 0, .int .i64 0, .int .i64 0, .int .i64 0, .int .i64 0, .int .i64 0] 56))
  obtain ⟨hb, hhb⟩ : ∃ hb, hb = w1.heap.size := ⟨_, rfl⟩
  rw [← hhb] at V1
  have HV : Hid (OS (w1.alloc (.cells #[.int .i64 0, .int .i64 0, .int .i64 0, .int .i64 0, .int .i64 0, .int .i64 0] 56)) B m hb (M0 6) (M0 6).owns) := V1
  have HB1 : Hid (Below B w (w1.alloc (.cells #[.int .i64 0, .int .i64 0, .int .i64 0, .int .i64 0, .int .i64 0, .int .i64 0] 56))) := B1
  have Hhb : Hid (hb = w1.heap.size) := hhb
  clear cN b1 i1 hs1 V1 B1 hhb
  unfold ptr at *
  go_wp2_with fail
  rw [← Hhb.out]
  go_loopw [6] (fun i u => ∃ k : Nat, k ≤ 200 ∧ k ≤ n0 ∧ i = .int .i64 (k : Int) ∧ (∃ S : M, OS u B m hb S S.owns) ∧ Below B w u) (fun i _ => 200 - (intOf i).toNat)
  case atStart => exact ⟨0, by omega, by omega, rfl, ⟨_, HV.out⟩, HB1.out⟩
  case round =>
    obtain ⟨k, hk200, hkn, rfl, ⟨S, hV⟩, hbl⟩ := hrel
    obtain ⟨wa, hwa⟩ : ∃ wa, wa = wr := ⟨_, rfl⟩
    subst hwa
    have HVa : Hid (OS wa B m hb S S.owns) := hV
    have HBa : Hid (Below B w wa) := hbl
    clear HV HB1 Hhb
    by_cases hgo : k < n0 ∧ k < 200
    · obtain ⟨hg1, hg2⟩ := hgo
      have hi1 : (k : Int) < (n0 : Int) := by omega
      have hi2 : (k : Int) < 200 := by omega
      obtain ⟨b, o, x, rfl, x0, x1, x2, x3, x4⟩ := HR.out wa hbl k hg1
      have bx := Box.new wa #[.int .i64 x.kind, .int .i64 x.i, .int .i64 x.owner, .int .i64 x.v, .int .i64 x.ver] 38
      have hbe := (Below.refl wa.heap.size wa).alloc (Nat.le_refl _) (.cells #[.int .i64 x.kind, .int .i64 x.i, .int .i64 x.owner, .int .i64 x.v, .int .i64 x.ver] 38)
      have hV2 := hV.below hbe
      obtain ⟨ob, hob⟩ : ∃ ob, ob = wa.heap.size := ⟨_, rfl⟩
      rw [← hob] at bx
      have Hob : Hid (ob = wa.heap.size) := hob
      obtain ⟨wb, hwb⟩ : ∃ wb, wb = wa.alloc (.cells #[.int .i64 x.kind, .int .i64 x.i, .int .i64 x.owner, .int .i64 x.v, .int .i64 x.ver] 38) := ⟨_, rfl⟩
      have Hwb : Hid (wb = wa.alloc (.cells #[.int .i64 x.kind, .int .i64 x.i, .int .i64 x.owner, .int .i64 x.v, .int .i64 x.ver] 38)) := hwb
      rw [← hwb] at hbe hV2 bx
      have HBc : Hid (Below B w wb) := hbl.trans (hbe.mono hV.is.hB)
      have HVc : Hid (OS wb B m hb S S.owns) := hV2
      have e0 := bx.cell 0
      have e1 := bx.cell 1
      have e2 := bx.cell 2
      have e3 := bx.cell 3
      have e4 := bx.cell 4
      have HXc : Hid (Box wb ob #[.int .i64 x.kind, .int .i64 x.i, .int .i64 x.owner, .int .i64 x.v, .int .i64 x.ver] 38) := bx
      simp only [List.getElem?_toArray, List.getElem?_cons_zero, List.getElem?_cons_succ] at e0 e1 e2 e3 e4
      clear hV hV2 hbe bx hbl hob hwb HVa HBa
      obtain ⟨xk, xi, xo, xv, xn⟩ := x
      simp only at x0 x1 x2 x3 x4 e0 e1 e2 e3 e4 HXc Hwb
      go_upto_region 9 with fail
      rw [← Hwb.out, ← Hob.out]
      clear x0 x1 x2 x3 x4 Hwb Hob
      go_cut [8] from 37 to 49 (fun v8 u => v8 = .bool (decide (Inn xi xo)) ∧ u = wb)
      case first =>
        by_cases q1 : xi < 0
        · as_aux_lemma =>
          go_wp2_with fail
          go_meet
          case rel => exact ⟨by rw [decide_eq_false (show ¬ Inn xi xo from fun h => by have := h.1; omega)], rfl⟩
        by_cases q2 : 6 ≤ xi
        · as_aux_lemma =>
          go_wp2_with fail
          go_meet
          case rel => exact ⟨by rw [decide_eq_false (show ¬ Inn xi xo from fun h => by have := h.2.1; omega)], rfl⟩
        as_aux_lemma =>
        have q3 : 0 ≤ xi := by omega
        have q4 : xi < 6 := by omega
        go_wp2_with fail
        go_meet
        case rel => exact ⟨by unfold Inn; simp [q3, q4], rfl⟩
      case rest =>
        obtain ⟨rfl, hwcb⟩ := hcut
        subst hwcb
        go_upto_block 2 with fail
        go_cut [8] from 52 to 150 (fun _ u => OR u w B m hb)
        case first =>
          by_cases k0 : xk = 0
          · as_aux_lemma =>
            subst k0
            have c := adv_at HVc.out.is
            have HG : Hid (S.adv.1.C.length = S.C.length ∧ Gd S.adv.1) := ⟨M.adv_len S, Gd.adv HVc.out.gd⟩
            unfold ptr at c
            go_wp2_with fail
            refine Calls.mono c ?_
            rintro e wd ⟨rfl, t⟩
            have HF : Hid (OR wd w B m hb) := ⟨S.adv.1, by rw [M.adv_owns]; exact HVc.out.to t HG.out.1 HG.out.2, HBc.out.trans t.bel⟩
            clear c t HG
            go_wp2_with fail
            go_meet
            case rel => exact HF.out
          by_cases k3 : xk = 3
          · subst k3
            have c := lock_at HVc.out.is xi xo
            have HG : Hid ((S.lock xi xo).1.C.length = S.C.length ∧ Gd (S.lock xi xo).1) := ⟨M.lock_len S xi xo, Gd.lock HVc.out.gd xi xo⟩
            have HVX : Hid (OS wc B m hb S S.owns) := HVc.out
            by_cases hin : Inn xi xo
            · rw [decide_eq_true hin]
              obtain ⟨j, cc, rfl, hj6, hcj, hcell, hown⟩ := hin.cell HVc.out.six
              rcases M.lock_in hin.2.2 hcell with ⟨p1, p2, e⟩ | ⟨p, e⟩
              · as_aux_lemma =>
                rw [e] at c HG
                unfold ptr at c
                clear HVX
                have z1 : (cc.own == 0) = false := by simpa using p1
                have z2 : (cc.own == xo) = false := by simpa using p2
                go_wp2_with fail
                refine Calls.mono c ?_
                rintro e wd ⟨rfl, t⟩
                have hOS : OS wd B m hb S S.owns := HVc.out.to t rfl HVc.out.gd
                have HF : Hid (∀ nq, OR (wd.drewN nq) w B m hb) := fun nq => ⟨S, hOS.below (Below.drewN (Below.refl _ _) nq), Below.drewN (HBc.out.trans t.bel) nq⟩
                have hX2 := t.kt _ _ _ HXc.out (by decide)
                have y1 : wd.cell? ⟨ob, 1, none⟩ = some (.int .i64 (j : Int)) := hX2.cell 1
                have y2 : wd.cell? ⟨ob, 2, none⟩ = some (.int .i64 xo) := hX2.cell 2
                have y5 := (hOS.cells hown).1
                have hj6' : (j : Int) < 6 := by omega
                obtain ⟨oo, hoo⟩ : ∃ oo, oo = cc.own := ⟨_, rfl⟩
                rw [← hoo] at y5 z2 z1
                clear e hoo p1 p2 hcj hcell hown
                clear c t hOS hX2 HG
                go_wp2_with fail
                go_quiet (fail)
                go_wp2_with fail
                go_meet
                case rel => exact HF.out nq
              · as_aux_lemma =>
                rw [e] at c HG
                unfold ptr at c
                go_wp2_with fail
                refine Calls.mono c ?_
                rintro e wd ⟨rfl, t⟩
                have hOS : OS wd B m hb (S.put (j : Int) { cc with own := xo }) S.owns := HVc.out.to t HG.out.1 HG.out.2
                have hX2 := t.kt _ _ _ HXc.out (by decide)
                have hOq : ∀ nq, OS (wd.drewN nq) B m hb (S.put (j : Int) { cc with own := xo }) S.owns := fun nq => hOS.below (Below.drewN (Below.refl _ _) nq)
                have y1 : wd.cell? ⟨ob, 1, none⟩ = some (.int .i64 (j : Int)) := hX2.cell 1
                have y2 : wd.cell? ⟨ob, 2, none⟩ = some (.int .i64 xo) := hX2.cell 2
                have y5 := (hOS.cells hown).1
                have HF : Hid (∀ nq, OR ((wd.drewN nq).setCell ⟨hb, j, none⟩ (.int .i64 xo)) w B m hb) := fun nq => by
                  refine ⟨S.put (j : Int) { cc with own := xo }, ?_, (Below.drewN (HBc.out.trans t.bel) nq).trans ((hOq nq).put_below j _)⟩
                  have h1 := (hOq nq).put j xo
                  have h2 : (S.put (j : Int) { cc with own := xo }).owns = S.owns.set j xo := M.put_owns S j _
                  rw [h2]; exact h1
                have HC : Hid (∀ nq, (wd.drewN nq).cell? ⟨ob, 1, none⟩ = some (.int .i64 (j : Int)) ∧ (wd.drewN nq).cell? ⟨ob, 2, none⟩ = some (.int .i64 xo) ∧ (wd.drewN nq).cell? ⟨hb, j, none⟩ = some (.int .i64 cc.own) ∧ (wd.drewN nq).frozen? ⟨hb, j, none⟩ = false) := fun nq => ⟨(hX2.drew nq).cell 1, (hX2.drew nq).cell 2, ((hOq nq).cells hown).1, ((hOq nq).cells hown).2⟩
                clear c t hOS hX2 HG hOq HVX hcj hcell hown
                have hj6' : (j : Int) < 6 := by omega
                obtain ⟨oo, hoo⟩ : ∃ oo, oo = cc.own := ⟨_, rfl⟩
                rw [← hoo] at y5 HC p
                clear hoo
                by_cases p0 : oo = 0
                · subst p0
                  clear p
                  go_wp2_with fail
                  go_quiet (fail)
                  obtain ⟨v1, v2, v3, v4⟩ := HC.out nq
                  go_wp2_with fail
                  go_meet
                  case rel => exact HF.out nq
                · have p1 : oo = xo := by rcases p with p | p; exact absurd p p0; exact p
                  subst p1
                  have z1 : (oo == 0) = false := by simpa using p0
                  clear p
                  go_wp2_with fail
                  go_quiet (fail)
                  obtain ⟨v1, v2, v3, v4⟩ := HC.out nq
                  go_wp2_with fail
                  go_meet
                  case rel => exact HF.out nq
            · as_aux_lemma =>
              rw [decide_eq_false hin]
              rw [M.lock_out hin HVc.out.six] at c HG
              unfold ptr at c
              clear HVX
              go_wp2_with fail
              refine Calls.mono c ?_
              rintro e wd ⟨rfl, t⟩
              have hOS : OS wd B m hb S S.owns := HVc.out.to t rfl HVc.out.gd
              have HF : Hid (∀ nq, OR (wd.drewN nq) w B m hb) := fun nq => ⟨S, hOS.below (Below.drewN (Below.refl _ _) nq), Below.drewN (HBc.out.trans t.bel) nq⟩
              have hX2 := t.kt _ _ _ HXc.out (by decide)
              have y1 : wd.cell? ⟨ob, 1, none⟩ = some (.int .i64 xi) := hX2.cell 1
              have y2 : wd.cell? ⟨ob, 2, none⟩ = some (.int .i64 xo) := hX2.cell 2
              clear c t hOS hX2 HG
              go_wp2_with fail
              go_quiet (fail)
              go_wp2_with fail
              go_meet
              case rel => exact HF.out nq
          by_cases k4 : xk = 4
          · subst k4
            have c := lock_at HVc.out.is xi xo
            have HG : Hid ((S.lock xi xo).1.C.length = S.C.length ∧ Gd (S.lock xi xo).1) := ⟨M.lock_len S xi xo, Gd.lock HVc.out.gd xi xo⟩
            have HVX : Hid (OS wc B m hb S S.owns) := HVc.out
            by_cases hin : Inn xi xo
            · rw [decide_eq_true hin]
              obtain ⟨j, cc, rfl, hj6, hcj, hcell, hown⟩ := hin.cell HVc.out.six
              rcases M.lock_in hin.2.2 hcell with ⟨p1, p2, e⟩ | ⟨p, e⟩
              · as_aux_lemma =>
                rw [e] at c HG
                unfold ptr at c
                clear HVX
                have z1 : (cc.own == 0) = false := by simpa using p1
                have z2 : (cc.own == xo) = false := by simpa using p2
                go_wp2_with fail
                refine Calls.mono c ?_
                rintro e wd ⟨rfl, t⟩
                have hOS : OS wd B m hb S S.owns := HVc.out.to t rfl HVc.out.gd
                have HF : Hid (∀ nq, OR (wd.drewN nq) w B m hb) := fun nq => ⟨S, hOS.below (Below.drewN (Below.refl _ _) nq), Below.drewN (HBc.out.trans t.bel) nq⟩
                have hX2 := t.kt _ _ _ HXc.out (by decide)
                have y1 : wd.cell? ⟨ob, 1, none⟩ = some (.int .i64 (j : Int)) := hX2.cell 1
                have y2 : wd.cell? ⟨ob, 2, none⟩ = some (.int .i64 xo) := hX2.cell 2
                have y5 := (hOS.cells hown).1
                have hj6' : (j : Int) < 6 := by omega
                obtain ⟨oo, hoo⟩ : ∃ oo, oo = cc.own := ⟨_, rfl⟩
                rw [← hoo] at y5 z2 z1
                clear e hoo p1 p2 hcj hcell hown
                clear c t hOS hX2 HG
                go_wp2_with fail
                go_quiet (fail)
                go_wp2_with fail
                go_meet
                case rel => exact HF.out nq
              · as_aux_lemma =>
                rw [e] at c HG
                unfold ptr at c
                go_wp2_with fail
                refine Calls.mono c ?_
                rintro e wd ⟨rfl, t⟩
                have hOS : OS wd B m hb (S.put (j : Int) { cc with own := xo }) S.owns := HVc.out.to t HG.out.1 HG.out.2
                have hX2 := t.kt _ _ _ HXc.out (by decide)
                have hOq : ∀ nq, OS (wd.drewN nq) B m hb (S.put (j : Int) { cc with own := xo }) S.owns := fun nq => hOS.below (Below.drewN (Below.refl _ _) nq)
                have y1 : wd.cell? ⟨ob, 1, none⟩ = some (.int .i64 (j : Int)) := hX2.cell 1
                have y2 : wd.cell? ⟨ob, 2, none⟩ = some (.int .i64 xo) := hX2.cell 2
                have y5 := (hOS.cells hown).1
                have HF : Hid (∀ nq, OR ((wd.drewN nq).setCell ⟨hb, j, none⟩ (.int .i64 xo)) w B m hb) := fun nq => by
                  refine ⟨S.put (j : Int) { cc with own := xo }, ?_, (Below.drewN (HBc.out.trans t.bel) nq).trans ((hOq nq).put_below j _)⟩
                  have h1 := (hOq nq).put j xo
                  have h2 : (S.put (j : Int) { cc with own := xo }).owns = S.owns.set j xo := M.put_owns S j _
                  rw [h2]; exact h1
                have HC : Hid (∀ nq, (wd.drewN nq).cell? ⟨ob, 1, none⟩ = some (.int .i64 (j : Int)) ∧ (wd.drewN nq).cell? ⟨ob, 2, none⟩ = some (.int .i64 xo) ∧ (wd.drewN nq).cell? ⟨hb, j, none⟩ = some (.int .i64 cc.own) ∧ (wd.drewN nq).frozen? ⟨hb, j, none⟩ = false) := fun nq => ⟨(hX2.drew nq).cell 1, (hX2.drew nq).cell 2, ((hOq nq).cells hown).1, ((hOq nq).cells hown).2⟩
                clear c t hOS hX2 HG hOq HVX hcj hcell hown
                have hj6' : (j : Int) < 6 := by omega
                obtain ⟨oo, hoo⟩ : ∃ oo, oo = cc.own := ⟨_, rfl⟩
                rw [← hoo] at y5 HC p
                clear hoo
                by_cases p0 : oo = 0
                · subst p0
                  clear p
                  go_wp2_with fail
                  go_quiet (fail)
                  obtain ⟨v1, v2, v3, v4⟩ := HC.out nq
                  go_wp2_with fail
                  go_meet
                  case rel => exact HF.out nq
                · have p1 : oo = xo := by rcases p with p | p; exact absurd p p0; exact p
                  subst p1
                  have z1 : (oo == 0) = false := by simpa using p0
                  clear p
                  go_wp2_with fail
                  go_quiet (fail)
                  obtain ⟨v1, v2, v3, v4⟩ := HC.out nq
                  go_wp2_with fail
                  go_meet
                  case rel => exact HF.out nq
            · as_aux_lemma =>
              rw [decide_eq_false hin]
              rw [M.lock_out hin HVc.out.six] at c HG
              unfold ptr at c
              clear HVX
              go_wp2_with fail
              refine Calls.mono c ?_
              rintro e wd ⟨rfl, t⟩
              have hOS : OS wd B m hb S S.owns := HVc.out.to t rfl HVc.out.gd
              have HF : Hid (∀ nq, OR (wd.drewN nq) w B m hb) := fun nq => ⟨S, hOS.below (Below.drewN (Below.refl _ _) nq), Below.drewN (HBc.out.trans t.bel) nq⟩
              have hX2 := t.kt _ _ _ HXc.out (by decide)
              have y1 : wd.cell? ⟨ob, 1, none⟩ = some (.int .i64 xi) := hX2.cell 1
              have y2 : wd.cell? ⟨ob, 2, none⟩ = some (.int .i64 xo) := hX2.cell 2
              clear c t hOS hX2 HG
              go_wp2_with fail
              go_quiet (fail)
              go_wp2_with fail
              go_meet
              case rel => exact HF.out nq
          by_cases k5 : xk = 5
          · subst k5
            have c := unlock_at HVc.out.is xi xo
            have HG : Hid ((S.unlock xi xo).1.C.length = S.C.length ∧ Gd (S.unlock xi xo).1) := ⟨M.unlock_len S xi xo, Gd.unlock HVc.out.gd xi xo⟩
            have HVX : Hid (OS wc B m hb S S.owns) := HVc.out
            by_cases hin : Inn xi xo
            · rw [decide_eq_true hin]
              obtain ⟨j, cc, rfl, hj6, hcj, hcell, hown⟩ := hin.cell HVc.out.six
              rcases M.unlock_in hin.2.2 hcell with ⟨p2, e⟩ | ⟨p, e⟩
              · as_aux_lemma =>
                rw [e] at c HG
                unfold ptr at c
                clear HVX
                have z2 : (cc.own == xo) = false := by simpa using p2
                go_wp2_with fail
                refine Calls.mono c ?_
                rintro e wd ⟨rfl, t⟩
                have hOS : OS wd B m hb S S.owns := HVc.out.to t rfl HVc.out.gd
                have HF : Hid (∀ nq, OR (wd.drewN nq) w B m hb) := fun nq => ⟨S, hOS.below (Below.drewN (Below.refl _ _) nq), Below.drewN (HBc.out.trans t.bel) nq⟩
                have hX2 := t.kt _ _ _ HXc.out (by decide)
                have y1 : wd.cell? ⟨ob, 1, none⟩ = some (.int .i64 (j : Int)) := hX2.cell 1
                have y2 : wd.cell? ⟨ob, 2, none⟩ = some (.int .i64 xo) := hX2.cell 2
                have y5 := (hOS.cells hown).1
                have hj6' : (j : Int) < 6 := by omega
                obtain ⟨oo, hoo⟩ : ∃ oo, oo = cc.own := ⟨_, rfl⟩
                rw [← hoo] at y5 z2
                clear e hoo p2 hcj hcell hown
                clear c t hOS hX2 HG
                go_wp2_with fail
                go_quiet (fail)
                go_wp2_with fail
                go_meet
                case rel => exact HF.out nq
              · as_aux_lemma =>
                rw [e] at c HG
                unfold ptr at c
                go_wp2_with fail
                refine Calls.mono c ?_
                rintro e wd ⟨rfl, t⟩
                have hOS : OS wd B m hb (S.put (j : Int) { cc with own := 0 }) S.owns := HVc.out.to t HG.out.1 HG.out.2
                have hX2 := t.kt _ _ _ HXc.out (by decide)
                have hOq : ∀ nq, OS (wd.drewN nq) B m hb (S.put (j : Int) { cc with own := 0 }) S.owns := fun nq => hOS.below (Below.drewN (Below.refl _ _) nq)
                have y1 : wd.cell? ⟨ob, 1, none⟩ = some (.int .i64 (j : Int)) := hX2.cell 1
                have y2 : wd.cell? ⟨ob, 2, none⟩ = some (.int .i64 xo) := hX2.cell 2
                have y5 := (hOS.cells hown).1
                have HF : Hid (∀ nq, OR ((wd.drewN nq).setCell ⟨hb, j, none⟩ (.int .i64 0)) w B m hb) := fun nq => by
                  refine ⟨S.put (j : Int) { cc with own := 0 }, ?_, (Below.drewN (HBc.out.trans t.bel) nq).trans ((hOq nq).put_below j _)⟩
                  have h1 := (hOq nq).put j 0
                  have h2 : (S.put (j : Int) { cc with own := 0 }).owns = S.owns.set j 0 := M.put_owns S j _
                  rw [h2]; exact h1
                have HC : Hid (∀ nq, (wd.drewN nq).cell? ⟨ob, 1, none⟩ = some (.int .i64 (j : Int)) ∧ (wd.drewN nq).cell? ⟨ob, 2, none⟩ = some (.int .i64 xo) ∧ (wd.drewN nq).cell? ⟨hb, j, none⟩ = some (.int .i64 cc.own) ∧ (wd.drewN nq).frozen? ⟨hb, j, none⟩ = false) := fun nq => ⟨(hX2.drew nq).cell 1, (hX2.drew nq).cell 2, ((hOq nq).cells hown).1, ((hOq nq).cells hown).2⟩
                clear c t hOS hX2 HG hOq HVX hcj hcell hown
                have hj6' : (j : Int) < 6 := by omega
                obtain ⟨oo, hoo⟩ : ∃ oo, oo = cc.own := ⟨_, rfl⟩
                rw [← hoo] at y5 HC p
                clear hoo
                subst p
                go_wp2_with fail
                go_quiet (fail)
                obtain ⟨v1, v2, v3, v4⟩ := HC.out nq
                go_wp2_with fail
                go_meet
                case rel => exact HF.out nq
            · as_aux_lemma =>
              rw [decide_eq_false hin]
              rw [M.unlock_out hin HVc.out.six] at c HG
              unfold ptr at c
              clear HVX
              go_wp2_with fail
              refine Calls.mono c ?_
              rintro e wd ⟨rfl, t⟩
              have hOS : OS wd B m hb S S.owns := HVc.out.to t rfl HVc.out.gd
              have HF : Hid (∀ nq, OR (wd.drewN nq) w B m hb) := fun nq => ⟨S, hOS.below (Below.drewN (Below.refl _ _) nq), Below.drewN (HBc.out.trans t.bel) nq⟩
              have hX2 := t.kt _ _ _ HXc.out (by decide)
              have y1 : wd.cell? ⟨ob, 1, none⟩ = some (.int .i64 xi) := hX2.cell 1
              have y2 : wd.cell? ⟨ob, 2, none⟩ = some (.int .i64 xo) := hX2.cell 2
              clear c t hOS hX2 HG
              go_wp2_with fail
              go_quiet (fail)
              go_wp2_with fail
              go_meet
              case rel => exact HF.out nq
          by_cases k6 : xk = 6
          · subst k6
            have c := publish_at HVc.out.is xi xo xv xn (HVc.out.gd.hv xi)
            have HG : Hid ((S.publish xi xo (.int .i64 xv) xn).1.C.length = S.C.length ∧ Gd (S.publish xi xo (.int .i64 xv) xn).1) := ⟨M.publish_len S xi xo _ xn, Gd.publish HVc.out.gd xi xo xv xn⟩
            have HVX : Hid (OS wc B m hb S S.owns) := HVc.out
            by_cases hin : Inn xi xo
            · rw [decide_eq_true hin]
              obtain ⟨j, cc, rfl, hj6, hcj, hcell, hown⟩ := hin.cell HVc.out.six
              rcases M.publish_in (.int .i64 xv) xn hin.2.2 hcell with ⟨er, pe, e⟩ | ⟨p, e⟩
              · as_aux_lemma =>
                rw [e] at c HG
                unfold ptr at c
                clear HVX
                have z1 : (er == 0) = false := by simpa using pe
                go_wp2_with fail
                refine Calls.mono c ?_
                rintro e wd ⟨rfl, t⟩
                have hOS : OS wd B m hb S S.owns := HVc.out.to t rfl HVc.out.gd
                have HF : Hid (∀ nq, OR (wd.drewN nq) w B m hb) := fun nq => ⟨S, hOS.below (Below.drewN (Below.refl _ _) nq), Below.drewN (HBc.out.trans t.bel) nq⟩
                have hX2 := t.kt _ _ _ HXc.out (by decide)
                have y1 : wd.cell? ⟨ob, 1, none⟩ = some (.int .i64 (j : Int)) := hX2.cell 1
                have y2 : wd.cell? ⟨ob, 2, none⟩ = some (.int .i64 xo) := hX2.cell 2
                have y5 := (hOS.cells hown).1
                have hj6' : (j : Int) < 6 := by omega
                obtain ⟨oo, hoo⟩ : ∃ oo, oo = cc.own := ⟨_, rfl⟩
                rw [← hoo] at y5
                clear e hoo pe hcj hcell hown
                clear c t hOS hX2 HG
                go_wp2_with fail
                go_quiet (fail)
                go_wp2_with fail
                go_meet
                case rel => exact HF.out nq
              · as_aux_lemma =>
                rw [e] at c HG
                unfold ptr at c
                go_wp2_with fail
                refine Calls.mono c ?_
                rintro e wd ⟨rfl, t⟩
                have hOS : OS wd B m hb (S.put (j : Int) ⟨.int .i64 xv, xn, 0⟩) S.owns := HVc.out.to t HG.out.1 HG.out.2
                have hX2 := t.kt _ _ _ HXc.out (by decide)
                have hOq : ∀ nq, OS (wd.drewN nq) B m hb (S.put (j : Int) ⟨.int .i64 xv, xn, 0⟩) S.owns := fun nq => hOS.below (Below.drewN (Below.refl _ _) nq)
                have y1 : wd.cell? ⟨ob, 1, none⟩ = some (.int .i64 (j : Int)) := hX2.cell 1
                have y2 : wd.cell? ⟨ob, 2, none⟩ = some (.int .i64 xo) := hX2.cell 2
                have y5 := (hOS.cells hown).1
                have HF : Hid (∀ nq, OR ((wd.drewN nq).setCell ⟨hb, j, none⟩ (.int .i64 0)) w B m hb) := fun nq => by
                  refine ⟨S.put (j : Int) ⟨.int .i64 xv, xn, 0⟩, ?_, (Below.drewN (HBc.out.trans t.bel) nq).trans ((hOq nq).put_below j _)⟩
                  have h1 := (hOq nq).put j 0
                  have h2 : (S.put (j : Int) ⟨.int .i64 xv, xn, 0⟩).owns = S.owns.set j 0 := M.put_owns S j _
                  rw [h2]; exact h1
                have HC : Hid (∀ nq, (wd.drewN nq).cell? ⟨ob, 1, none⟩ = some (.int .i64 (j : Int)) ∧ (wd.drewN nq).cell? ⟨ob, 2, none⟩ = some (.int .i64 xo) ∧ (wd.drewN nq).cell? ⟨hb, j, none⟩ = some (.int .i64 cc.own) ∧ (wd.drewN nq).frozen? ⟨hb, j, none⟩ = false) := fun nq => ⟨(hX2.drew nq).cell 1, (hX2.drew nq).cell 2, ((hOq nq).cells hown).1, ((hOq nq).cells hown).2⟩
                clear c t hOS hX2 HG hOq HVX hcj hcell hown
                have hj6' : (j : Int) < 6 := by omega
                obtain ⟨oo, hoo⟩ : ∃ oo, oo = cc.own := ⟨_, rfl⟩
                rw [← hoo] at y5 HC p
                clear hoo
                subst p
                go_wp2_with fail
                go_quiet (fail)
                obtain ⟨v1, v2, v3, v4⟩ := HC.out nq
                go_wp2_with fail
                go_meet
                case rel => exact HF.out nq
            · as_aux_lemma =>
              rw [decide_eq_false hin]
              rw [M.publish_out (.int .i64 xv) xn hin HVc.out.six] at c HG
              unfold ptr at c
              clear HVX
              go_wp2_with fail
              refine Calls.mono c ?_
              rintro e wd ⟨rfl, t⟩
              have hOS : OS wd B m hb S S.owns := HVc.out.to t rfl HVc.out.gd
              have HF : Hid (∀ nq, OR (wd.drewN nq) w B m hb) := fun nq => ⟨S, hOS.below (Below.drewN (Below.refl _ _) nq), Below.drewN (HBc.out.trans t.bel) nq⟩
              have hX2 := t.kt _ _ _ HXc.out (by decide)
              have y1 : wd.cell? ⟨ob, 1, none⟩ = some (.int .i64 xi) := hX2.cell 1
              have y2 : wd.cell? ⟨ob, 2, none⟩ = some (.int .i64 xo) := hX2.cell 2
              clear c t hOS hX2 HG
              go_wp2_with fail
              go_quiet (fail)
              go_wp2_with fail
              go_meet
              case rel => exact HF.out nq
          by_cases k7 : xk = 7
          · subst k7
            have c := publish_at HVc.out.is xi xo xv xn (HVc.out.gd.hv xi)
            have HG : Hid ((S.publish xi xo (.int .i64 xv) xn).1.C.length = S.C.length ∧ Gd (S.publish xi xo (.int .i64 xv) xn).1) := ⟨M.publish_len S xi xo _ xn, Gd.publish HVc.out.gd xi xo xv xn⟩
            have HVX : Hid (OS wc B m hb S S.owns) := HVc.out
            by_cases hin : Inn xi xo
            · rw [decide_eq_true hin]
              obtain ⟨j, cc, rfl, hj6, hcj, hcell, hown⟩ := hin.cell HVc.out.six
              rcases M.publish_in (.int .i64 xv) xn hin.2.2 hcell with ⟨er, pe, e⟩ | ⟨p, e⟩
              · as_aux_lemma =>
                rw [e] at c HG
                unfold ptr at c
                clear HVX
                have z1 : (er == 0) = false := by simpa using pe
                go_wp2_with fail
                refine Calls.mono c ?_
                rintro e wd ⟨rfl, t⟩
                have hOS : OS wd B m hb S S.owns := HVc.out.to t rfl HVc.out.gd
                have HF : Hid (∀ nq, OR (wd.drewN nq) w B m hb) := fun nq => ⟨S, hOS.below (Below.drewN (Below.refl _ _) nq), Below.drewN (HBc.out.trans t.bel) nq⟩
                have hX2 := t.kt _ _ _ HXc.out (by decide)
                have y1 : wd.cell? ⟨ob, 1, none⟩ = some (.int .i64 (j : Int)) := hX2.cell 1
                have y2 : wd.cell? ⟨ob, 2, none⟩ = some (.int .i64 xo) := hX2.cell 2
                have y5 := (hOS.cells hown).1
                have hj6' : (j : Int) < 6 := by omega
                obtain ⟨oo, hoo⟩ : ∃ oo, oo = cc.own := ⟨_, rfl⟩
                rw [← hoo] at y5
                clear e hoo pe hcj hcell hown
                clear c t hOS hX2 HG
                go_wp2_with fail
                go_quiet (fail)
                go_wp2_with fail
                go_meet
                case rel => exact HF.out nq
              · as_aux_lemma =>
                rw [e] at c HG
                unfold ptr at c
                go_wp2_with fail
                refine Calls.mono c ?_
                rintro e wd ⟨rfl, t⟩
                have hOS : OS wd B m hb (S.put (j : Int) ⟨.int .i64 xv, xn, 0⟩) S.owns := HVc.out.to t HG.out.1 HG.out.2
                have hX2 := t.kt _ _ _ HXc.out (by decide)
                have hOq : ∀ nq, OS (wd.drewN nq) B m hb (S.put (j : Int) ⟨.int .i64 xv, xn, 0⟩) S.owns := fun nq => hOS.below (Below.drewN (Below.refl _ _) nq)
                have y1 : wd.cell? ⟨ob, 1, none⟩ = some (.int .i64 (j : Int)) := hX2.cell 1
                have y2 : wd.cell? ⟨ob, 2, none⟩ = some (.int .i64 xo) := hX2.cell 2
                have y5 := (hOS.cells hown).1
                have HF : Hid (∀ nq, OR ((wd.drewN nq).setCell ⟨hb, j, none⟩ (.int .i64 0)) w B m hb) := fun nq => by
                  refine ⟨S.put (j : Int) ⟨.int .i64 xv, xn, 0⟩, ?_, (Below.drewN (HBc.out.trans t.bel) nq).trans ((hOq nq).put_below j _)⟩
                  have h1 := (hOq nq).put j 0
                  have h2 : (S.put (j : Int) ⟨.int .i64 xv, xn, 0⟩).owns = S.owns.set j 0 := M.put_owns S j _
                  rw [h2]; exact h1
                have HC : Hid (∀ nq, (wd.drewN nq).cell? ⟨ob, 1, none⟩ = some (.int .i64 (j : Int)) ∧ (wd.drewN nq).cell? ⟨ob, 2, none⟩ = some (.int .i64 xo) ∧ (wd.drewN nq).cell? ⟨hb, j, none⟩ = some (.int .i64 cc.own) ∧ (wd.drewN nq).frozen? ⟨hb, j, none⟩ = false) := fun nq => ⟨(hX2.drew nq).cell 1, (hX2.drew nq).cell 2, ((hOq nq).cells hown).1, ((hOq nq).cells hown).2⟩
                clear c t hOS hX2 HG hOq HVX hcj hcell hown
                have hj6' : (j : Int) < 6 := by omega
                obtain ⟨oo, hoo⟩ : ∃ oo, oo = cc.own := ⟨_, rfl⟩
                rw [← hoo] at y5 HC p
                clear hoo
                subst p
                go_wp2_with fail
                go_quiet (fail)
                obtain ⟨v1, v2, v3, v4⟩ := HC.out nq
                go_wp2_with fail
                go_meet
                case rel => exact HF.out nq
            · as_aux_lemma =>
              rw [decide_eq_false hin]
              rw [M.publish_out (.int .i64 xv) xn hin HVc.out.six] at c HG
              unfold ptr at c
              clear HVX
              go_wp2_with fail
              refine Calls.mono c ?_
              rintro e wd ⟨rfl, t⟩
              have hOS : OS wd B m hb S S.owns := HVc.out.to t rfl HVc.out.gd
              have HF : Hid (∀ nq, OR (wd.drewN nq) w B m hb) := fun nq => ⟨S, hOS.below (Below.drewN (Below.refl _ _) nq), Below.drewN (HBc.out.trans t.bel) nq⟩
              have hX2 := t.kt _ _ _ HXc.out (by decide)
              have y1 : wd.cell? ⟨ob, 1, none⟩ = some (.int .i64 xi) := hX2.cell 1
              have y2 : wd.cell? ⟨ob, 2, none⟩ = some (.int .i64 xo) := hX2.cell 2
              clear c t hOS hX2 HG
              go_wp2_with fail
              go_quiet (fail)
              go_wp2_with fail
              go_meet
              case rel => exact HF.out nq
          as_aux_lemma =>
          have HF : Hid (OR wc w B m hb) := ⟨S, HVc.out, HBc.out⟩
          go_wp2_with fail
          go_meet
          case rel => exact HF.out
        case rest =>
          obtain ⟨S', hV', hB'⟩ := hcut
          have HV0 : Hid (OS wc B m hb S' S'.owns) := hV'
          have HB0 : Hid (Below B w wc) := hB'
          clear hV' hB' HVc HBc HXc e0 e1 e2 e3 e4
          go_wp2_with fail
          go_loopw [151] (fun c u => ∃ i : Nat, i ≤ 6 ∧ c = .int .i64 (i : Int) ∧ OS u B m hb S' S'.owns ∧ Below B w u) (fun c _ => 6 - (intOf c).toNat)
          case atStart => exact ⟨0, by omega, rfl, HV0.out, HB0.out⟩
          case round =>
            obtain ⟨i, hi6, rfl, hV, hBb⟩ := hrel
            obtain ⟨wd, hwd⟩ : ∃ wd, wd = wr := ⟨_, rfl⟩
            subst hwd
            have HVd : Hid (OS wd B m hb S' S'.owns) := hV
            have HBd : Hid (Below B w wd) := hBb
            clear HV0 HB0 hBb
            by_cases hil : i < 6
            · have hii : (i : Int) < 6 := by omega
              have hl' : S'.C.length = 6 := hV.six
              obtain ⟨c', hc'⟩ : ∃ c', S'.C[i]? = some c' := ⟨_, List.getElem?_eq_getElem (by omega)⟩
              have hco : S'.owns[i]? = some c'.own := by simp [M.owns, hc']
              have cL := load_at hV.is (i : Int)
              have eL : M.load S' (i : Int) = (c'.v, c'.ver, c'.own, 0) := by simp [M.load, M.cell?, hc']
              rw [eL] at cL
              obtain ⟨oo, hoo⟩ : ∃ oo, oo = c'.own := ⟨_, rfl⟩
              rw [← hoo] at cL hco
              clear eL hoo hV hc' hl'
              unfold ptr at cL
              go_wp2_with fail
              refine Calls.mono cL ?_
              rintro e wx ⟨rfl, nq, rfl⟩
              have hdr := Below.drewN (Below.refl wd.heap.size wd) nq
              have HVe : Hid (OS (wd.drewN nq) B m hb S' S'.owns) := HVd.out.below hdr
              have HBe : Hid (Below B w (wd.drewN nq)) := Below.drewN HBd.out nq
              obtain ⟨we, hwe⟩ : ∃ we, we = wd.drewN nq := ⟨_, rfl⟩
              rw [← hwe] at HVe HBe ⊢
              clear cL hdr HVd HBd hwe
              have q0 := (HVe.out.cells hco).1
              clear hco
              go_wp2_with fail
              go_roundw
              case rel => exact ⟨i + 1, by omega, by go_num, HVe.out, HBe.out⟩
              case measure => simp [intOf]; omega
            · have hi : i = 6 := by omega
              subst i
              clear hV
              go_wp2_with fail
              go_roundw
              case rel => exact ⟨k + 1, by omega, by omega, by go_num, ⟨S', HVd.out⟩, HBd.out⟩
              case measure => simp [intOf]; omega
    · have cA := awake_at wa
      clear hV hbl HR
      by_cases hg : (k : Int) < (n0 : Int)
      · have hk2 : k = 200 := by omega
        subst k
        go_wp2_with fail
        refine Calls.mono cA ?_
        rintro e wx ⟨rfl, bx⟩
        clear cA
        go_wp2_with fail
        go_ret
        exact ⟨rfl, by rw [← HB.out]; exact HBa.out.trans (bx.mono HVa.out.is.hB)⟩
      · go_wp2_with fail
        refine Calls.mono cA ?_
        rintro e wx ⟨rfl, bx⟩
        clear cA
        go_wp2_with fail
        go_ret
        exact ⟨rfl, by rw [← HB.out]; exact HBa.out.trans (bx.mono HVa.out.is.hB)⟩
end Go.Proofs.Ytinflodnkopcdaa
