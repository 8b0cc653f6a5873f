/-
  AfterTells, walked.
-/
import Derived.Test.YtlbnilendcelkaaTlm
import Derived.Test.YtlbnilendcelkaaAwk
import Derived.Deep.RegionHeld3
import Derived.Deep.CutRange
namespace Go.Proofs.Ytlbnilendcelkaa
open Go.RowKit Go.Maps
/-- behind the switch -/
def TL (w u : World) (q r : Nat) (K : List Bx) (v7 v8 v9 v10 : Value) : Prop := ∃ S e x, v7 = .int .i64 e ∧ v8 = .int .i64 e ∧ v9 = .int .i64 x ∧ v10 = .int .i64 x ∧ TM w u q r S S K
theorem tm_new {w u : World} {q : Nat} {F : Nat → Prop} (h : HasQ eI 49 33 u w.heap.size q ⟨[], []⟩ F) (hb : Below w.heap.size w u) : TM w (u.alloc (.cells #[.slice none 0 0, .slice none 0 0] 39)) q u.heap.size ⟨[], []⟩ ⟨[], []⟩ [] := by
  have hb2 := (Below.refl u.heap.size u).alloc (Nat.le_refl _) (.cells #[.slice none 0 0, .slice none 0 0] 39)
  have hs := hb.size
  refine ⟨F, fun k => k = u.heap.size, h.below hb2, ⟨_, _, ⟨rfl, fun k hk => (by subst hk; simp; omega), Box.new u _ 39, IsRow.nil _ _ _ _, IsRow.nil _ _ _ _, fun k e => (by cases e), fun k e => (by cases e), fun k e => (by cases e), by simp⟩, List.Pairwise.nil⟩, fun k hk e => by have := (HasQ.lt h k hk).2; omega, fun x hx => (by cases hx), fun x hx => (by cases hx), hb.trans (hb2.mono hs)⟩
theorem TM.rm {w0 u : World} {q r : Nat} {S T : QS Int} {K : List Bx} (h : TM w0 u q r S T K) (v : Int) : (S.take v).1.length ≤ 1024 := by
  obtain ⟨F, G, h⟩ := h
  obtain ⟨_, _, h, _⟩ := h.hq
  have := List.length_filter_le (fun e : En Int => decide (e.ver ≤ v)) S.due
  have := h.rm
  show (S.due.filter _).length ≤ 1024
  omega
set_option maxRecDepth 100000 in
set_option maxHeartbeats 40000000 in
theorem tells_at {w : World} {a0 : Option Addr} {n0 c0 : Nat} {os : List Op4} (hl : os.length = n0) (hr : RdOps w a0 os) (hn : n0 ≤ 9223372036854775807) :
    Calls Try.prog 4 #[.slice a0 n0 c0] w fun e w' => e = .returned (.bool true) ∧ Below w.heap.size w w' := by
  have HRD := hid hr
  have HL := hid hl
  have cN := I.new_at w
  clear hr hl
  unfold ptr at *
  go_enter Try.func4, Try.ntmps4
  go_wp2_with fail
  refine Calls.mono cN ?_
  rintro e u1 ⟨q, F, rfl, hq, hb⟩
  have HO : Hid (TM w (u1.alloc (.cells #[.slice none 0 0, .slice none 0 0] 39)) q u1.heap.size ⟨[], []⟩ ⟨[], []⟩ []) := tm_new hq hb
  clear cN hq hb
  go_wp2_with fail
  obtain ⟨r, hr⟩ : ∃ r, r = u1.heap.size := ⟨_, rfl⟩
  rw [← hr] at HO ⊢
  clear hr
  go_loopw [5] (fun i u => ∃ k : Nat, k ≤ 1200 ∧ k ≤ n0 ∧ i = .int .i64 (k : Int) ∧ Hid (∃ S, TM w u q r S S [])) (fun i _ => 1200 - (intOf i).toNat)
  case atStart => exact ⟨0, by omega, by omega, by simp, _, HO.out⟩
  case round =>
    clear HO
    obtain ⟨k, hk2, hkn, rfl, hrel⟩ := hrel
    obtain ⟨wa, hwa⟩ : ∃ wa, wa = wr := ⟨_, rfl⟩
    subst hwa
    obtain ⟨S, hS⟩ := hrel.out
    by_cases hgo : k < n0 ∧ k < 1200
    · obtain ⟨hg1, hg2⟩ := hgo
      have hi1 : (k : Int) < (n0 : Int) := by omega
      have hi2 : (k : Int) < 1200 := by omega
      obtain ⟨b0, o0, ⟨xk, xo, xa, xv⟩, rfl, hbl, c0', c1', c2', c3'⟩ := HRD.out.at wa hS.bel k (by rw [HL.out]; exact hg1)
      simp only at c0' c1' c2' c3'
      have hM := hS.box #[.int .i64 xk, .int .i64 xo, .int .i64 xa, .int .i64 xv] 41
      obtain ⟨b, hob⟩ : ∃ b, b = wa.heap.size := ⟨_, rfl⟩
      obtain ⟨wb, hwb⟩ : ∃ wb, wb = wa.alloc (.cells #[.int .i64 xk, .int .i64 xo, .int .i64 xa, .int .i64 xv] 41) := ⟨_, rfl⟩
      rw [← hwb, ← hob] at hM
      have HWB := hid (And.intro hwb hob)
      have HM := hid hM
      have hbx : Box wb b #[.int .i64 xk, .int .i64 xo, .int .i64 xa, .int .i64 xv] 41 := hM.bx _ (List.mem_singleton_self _)
      have d0 : wb.cell? ⟨b, 0, none⟩ = some (.int .i64 xk) := hbx.cell 0
      have d1 : wb.cell? ⟨b, 1, none⟩ = some (.int .i64 xo) := hbx.cell 1
      have d2 : wb.cell? ⟨b, 2, none⟩ = some (.int .i64 xa) := hbx.cell 2
      have d3 : wb.cell? ⟨b, 3, none⟩ = some (.int .i64 xv) := hbx.cell 3
      clear hS hM hob hwb hrel hbx
      go_upto_region 9 with fail
      rw [← HWB.out.1, ← HWB.out.2]
      clear c0' c1' c2' c3' HWB hbl
      go_upto_block 2 with fail
      go_cut [7, 8, 9, 10, 11, 12, 13] from 37 to 147 (fun v7 v8 v9 v10 _ _ _ u => TL w u q r [(b, #[.int .i64 xk, .int .i64 xo, .int .i64 xa, .int .i64 xv], 41)] v7 v8 v9 v10)
      case first =>
        by_cases k0 : xk = 0
        · as_aux_lemma =>
          subst k0
          have HD0 : Hid (TM w wb.drew q r S S [(b, #[.int .i64 0, .int .i64 xo, .int .i64 xa, .int .i64 xv], 41)]) := HM.out.below ⟨rfl, rfl, rfl, Nat.le_refl _, fun _ _ => rfl⟩
          have C1 := HD0.out.later xo xa
          have HK : Hid (∀ u, AllB u [(b, #[.int .i64 0, .int .i64 xo, .int .i64 xa, .int .i64 xv], 41)] → u.cell? ⟨b, 1, none⟩ = some (.int .i64 xo) ∧ u.cell? ⟨b, 2, none⟩ = some (.int .i64 xa)) := fun u hu => by
            have hb2 : Box u b #[.int .i64 0, .int .i64 xo, .int .i64 xa, .int .i64 xv] 41 := hu _ (List.mem_singleton_self _)
            exact ⟨hb2.cell 1, hb2.cell 2⟩
          unfold ptr at C1
          generalize (S.later xo xa) = D at *
          clear HD0
          go_wp2_with fail
          go_region_held3 (fun u => u.cell? ⟨b, 1, none⟩ = some (.int .i64 xo) ∧ u.cell? ⟨b, 2, none⟩ = some (.int .i64 xa)) (first | with_reducible exact HK.out _ m2.bx | with_reducible exact HK.out _ m1 | go_keep) (first | (go_at_call 8; refine Calls.mono C1 ?_; rintro e v1 ⟨rfl, m1, C2⟩) | (go_at_call 13; refine Calls.mono C2 ?_; rintro e v2 ⟨rfl, m2⟩))
          have HF : Hid (TL w v2 q r [(b, #[.int .i64 0, .int .i64 xo, .int .i64 xa, .int .i64 xv], 41)] (.int .i64 D.1) (.int .i64 D.1) (.int .i64 0) (.int .i64 0)) := ⟨_, _, _, rfl, rfl, rfl, rfl, m2⟩
          clear C1 C2 m1 m2 HK
          go_wp2_with fail
          go_meet
          case rel => exact HF.out
        by_cases k1 : xk = 1
        · as_aux_lemma =>
          subst k1
          have HD0 : Hid (TM w wb.drew q r S S [(b, #[.int .i64 1, .int .i64 xo, .int .i64 xa, .int .i64 xv], 41)]) := HM.out.below ⟨rfl, rfl, rfl, Nat.le_refl _, fun _ _ => rfl⟩
          have C1 := HD0.out.later xo xa
          have HK : Hid (∀ u, AllB u [(b, #[.int .i64 1, .int .i64 xo, .int .i64 xa, .int .i64 xv], 41)] → u.cell? ⟨b, 1, none⟩ = some (.int .i64 xo) ∧ u.cell? ⟨b, 2, none⟩ = some (.int .i64 xa)) := fun u hu => by
            have hb2 : Box u b #[.int .i64 1, .int .i64 xo, .int .i64 xa, .int .i64 xv] 41 := hu _ (List.mem_singleton_self _)
            exact ⟨hb2.cell 1, hb2.cell 2⟩
          unfold ptr at C1
          generalize (S.later xo xa) = D at *
          clear HD0
          go_wp2_with fail
          go_region_held3 (fun u => u.cell? ⟨b, 1, none⟩ = some (.int .i64 xo) ∧ u.cell? ⟨b, 2, none⟩ = some (.int .i64 xa)) (first | with_reducible exact HK.out _ m2.bx | with_reducible exact HK.out _ m1 | go_keep) (first | (go_at_call 8; refine Calls.mono C1 ?_; rintro e v1 ⟨rfl, m1, C2⟩) | (go_at_call 13; refine Calls.mono C2 ?_; rintro e v2 ⟨rfl, m2⟩))
          have HF : Hid (TL w v2 q r [(b, #[.int .i64 1, .int .i64 xo, .int .i64 xa, .int .i64 xv], 41)] (.int .i64 D.1) (.int .i64 D.1) (.int .i64 0) (.int .i64 0)) := ⟨_, _, _, rfl, rfl, rfl, rfl, m2⟩
          clear C1 C2 m1 m2 HK
          go_wp2_with fail
          go_meet
          case rel => exact HF.out
        by_cases k2 : xk = 2
        · as_aux_lemma =>
          subst k2
          have C1 := HM.out.commit xo xv
          unfold ptr at C1
          generalize (S.commit xo xv) = D at *
          go_wp2_with fail
          refine Calls.mono C1 ?_
          rintro e v1 ⟨rfl, m1, C2⟩
          have hb2 : Box v1 b #[.int .i64 2, .int .i64 xo, .int .i64 xa, .int .i64 xv] 41 := m1 _ (List.mem_singleton_self _)
          have e1 : v1.cell? ⟨b, 1, none⟩ = some (.int .i64 xo) := hb2.cell 1
          have e3 : v1.cell? ⟨b, 3, none⟩ = some (.int .i64 xv) := hb2.cell 3
          clear C1 hb2 m1 d0 d1 d2 d3
          go_wp2_with fail
          refine Calls.mono C2 ?_
          rintro e v2 ⟨rfl, m2⟩
          have HF : Hid (TL w v2 q r [(b, #[.int .i64 2, .int .i64 xo, .int .i64 xa, .int .i64 xv], 41)] (.int .i64 D.2.1) (.int .i64 D.2.1) (.int .i64 D.1) (.int .i64 D.1)) := ⟨_, _, _, rfl, rfl, rfl, rfl, m2⟩
          clear C2 m2
          go_wp2_with fail
          go_meet
          case rel => exact HF.out
        by_cases k3 : xk = 3
        · as_aux_lemma =>
          subst k3
          have HD0 : Hid (TM w wb.drew q r S S [(b, #[.int .i64 3, .int .i64 xo, .int .i64 xa, .int .i64 xv], 41)]) := HM.out.below ⟨rfl, rfl, rfl, Nat.le_refl _, fun _ _ => rfl⟩
          have C1 := HD0.out.drop xo
          have HK : Hid (∀ u, AllB u [(b, #[.int .i64 3, .int .i64 xo, .int .i64 xa, .int .i64 xv], 41)] → u.cell? ⟨b, 1, none⟩ = some (.int .i64 xo)) := fun u hu => by
            have hb2 : Box u b #[.int .i64 3, .int .i64 xo, .int .i64 xa, .int .i64 xv] 41 := hu _ (List.mem_singleton_self _)
            exact hb2.cell 1
          unfold ptr at C1
          generalize (S.back xo 0) = D at *
          clear HD0
          go_wp2_with fail
          go_region_held3 (fun u => u.cell? ⟨b, 1, none⟩ = some (.int .i64 xo)) (first | with_reducible exact HK.out _ m2.bx | with_reducible exact HK.out _ m1 | go_keep) (first | (go_at_call 15; refine Calls.mono C1 ?_; rintro e v1 ⟨rfl, m1, C2⟩) | (go_at_call 16; refine Calls.mono C2 ?_; rintro e v2 ⟨rfl, m2⟩))
          have HF : Hid (TL w v2 q r [(b, #[.int .i64 3, .int .i64 xo, .int .i64 xa, .int .i64 xv], 41)] (.int .i64 0) (.int .i64 0) (.int .i64 D.1) (.int .i64 D.1)) := ⟨_, _, _, rfl, rfl, rfl, rfl, m2⟩
          clear C1 C2 m1 m2 HK
          go_wp2_with fail
          go_meet
          case rel => exact HF.out
        by_cases k4 : xk = 4
        · as_aux_lemma =>
          subst k4
          have HD0 : Hid (TM w wb.drew q r S S [(b, #[.int .i64 4, .int .i64 xo, .int .i64 xa, .int .i64 xv], 41)]) := HM.out.below ⟨rfl, rfl, rfl, Nat.le_refl _, fun _ _ => rfl⟩
          have C1 := HD0.out.take xv
          have HK : Hid (∀ u, AllB u [(b, #[.int .i64 4, .int .i64 xo, .int .i64 xa, .int .i64 xv], 41)] → u.cell? ⟨b, 3, none⟩ = some (.int .i64 xv)) := fun u hu => by
            have hb2 : Box u b #[.int .i64 4, .int .i64 xo, .int .i64 xa, .int .i64 xv] 41 := hu _ (List.mem_singleton_self _)
            exact hb2.cell 3
          have hD := HD0.out.rm xv
          unfold ptr at C1
          generalize (S.take xv) = D at *
          clear HD0
          go_wp2_with fail
          go_region_held3 (fun u => u.cell? ⟨b, 3, none⟩ = some (.int .i64 xv)) (first | with_reducible exact HK.out _ m2.2.2.bx | with_reducible exact HK.out _ m1 | go_keep) (first | (go_at_call 10; refine Calls.mono C1 ?_; rintro e v1 ⟨vl, rfl, m1, C2⟩) | (go_at_call 17; refine Calls.mono C2 ?_; rintro e v2 ⟨vm, rfl, m2⟩))
          obtain ⟨ml, mm, mt⟩ := m2
          have HF : Hid (TL w v2 q r [(b, #[.int .i64 4, .int .i64 xo, .int .i64 xa, .int .i64 xv], 41)] (.int .i64 0) (.int .i64 0) (.int .i64 0) (.int .i64 0)) := ⟨_, _, _, rfl, rfl, rfl, rfl, mt⟩
          obtain ⟨al, cl, hvl⟩ := ownsRow_slice ml
          obtain ⟨am, cm, hvm⟩ := ownsRow_slice mm
          obtain ⟨nd, hnd⟩ : ∃ nd, nd = D.1.length := ⟨_, rfl⟩
          rw [← hnd] at hvl hvm hD
          have HRW := hid (And.intro ml (And.intro mm (And.intro hnd (And.intro hvl hvm))))
          subst hvl hvm
          clear C1 C2 m1 mt HK ml mm hnd d0 d1 d2 d3
          go_wp2_with fail
          go_loopw [13] (fun t u => ∃ j : Nat, j ≤ nd ∧ t = .int .i64 (j : Int) ∧ Hid (Below v2.heap.size v2 u)) (fun t _ => nd - (intOf t).toNat)
          case atStart => exact ⟨0, Nat.zero_le _, by simp, Below.refl _ _⟩
          case round =>
            obtain ⟨j, hj, rfl, hrel2⟩ := hrel
            by_cases hlt : j < nd
            · have hki : (j : Int) < (nd : Int) := by omega
              have hjD : j < D.1.length := by rw [← HRW.out.2.2.1]; exact hlt
              have hx := List.getElem?_eq_getElem hjD
              obtain ⟨xe, hxe⟩ : ∃ xe, xe = D.1[j]'hjD := ⟨_, rfl⟩
              rw [← hxe] at hx
              obtain ⟨yv, yo, ya⟩ := xe
              obtain ⟨r1, r2, r3, r4, r5⟩ := HRW.out
              have r1 := r1.chg (Chg.ofBelow (S := fun _ => False) hrel2.out) (fun _ _ x => x)
              have r2 := r2.chg (Chg.ofBelow (S := fun _ => False) hrel2.out) (fun _ _ x => x)
              rcases r1.lay with ⟨hv0, _⟩ | ⟨g1, cap1, hv1, _, l1⟩
              · injection hv0 with _ hz; omega
              injection hv1 with e1 _ e2
              subst e1 e2
              rcases r2.lay with ⟨hv0, _⟩ | ⟨g2, cap2, hv2, _, l2⟩
              · injection hv0 with _ hz; omega
              injection hv2 with e1 _ e2
              subst e1 e2
              obtain ⟨x0, x1, x2⟩ := l1.get hx
              obtain ⟨y0, y1, y2⟩ := l2.get hx
              simp only [eI, eR] at x0 x1 x2 y0 y1 y2
              have hne := fun u => neq33 u yv yo ya
              have hgd := guardN33
              have HB : Hid (∀ n, Below v2.heap.size v2 (wr.drewN n)) := fun n => hrel2.out.trans ⟨rfl, rfl, rfl, Nat.le_refl _, fun _ _ => rfl⟩
              clear hx hxe r1 r2 r3 r4 r5 l1 l2 hrel2 hjD
              go_wp2_with fail
              go_quiet (fail)
              go_wp2_with fail
              go_roundw
              case rel => exact ⟨j + 1, by omega, by simp, HB.out _⟩
              case measure => simp only [intOf]; omega
            · have hki : ¬ (j : Int) < (nd : Int) := by omega
              have HF2 : Hid (TL w wr q r [(b, #[.int .i64 4, .int .i64 xo, .int .i64 xa, .int .i64 xv], 41)] (.int .i64 0) (.int .i64 0) (.int .i64 0) (.int .i64 0)) := by
                obtain ⟨S1, e, x, h1, h2, h3, h4, h5⟩ := HF.out
                exact ⟨S1, e, x, h1, h2, h3, h4, h5.below hrel2.out⟩
              clear HF HRW hrel2
              go_wp2_with fail
              go_meet
              case rel => exact HF2.out
        by_cases k5 : xk = 5
        · as_aux_lemma =>
          subst k5
          have HD0 : Hid (TM w wb.drew q r S S [(b, #[.int .i64 5, .int .i64 xo, .int .i64 xa, .int .i64 xv], 41)]) := HM.out.below ⟨rfl, rfl, rfl, Nat.le_refl _, fun _ _ => rfl⟩
          have C1 := HD0.out.mark xo
          have HK : Hid (∀ u, AllB u [(b, #[.int .i64 5, .int .i64 xo, .int .i64 xa, .int .i64 xv], 41)] → u.cell? ⟨b, 1, none⟩ = some (.int .i64 xo)) := fun u hu => by
            have hb2 : Box u b #[.int .i64 5, .int .i64 xo, .int .i64 xa, .int .i64 xv] 41 := hu _ (List.mem_singleton_self _)
            exact hb2.cell 1
          unfold ptr at C1
          generalize ((S.mine xo).length : Int) = D at *
          clear HD0
          go_wp2_with fail
          go_region_held3 (fun u => u.cell? ⟨b, 1, none⟩ = some (.int .i64 xo)) (first | with_reducible exact HK.out _ m2.bx | with_reducible exact HK.out _ m1 | go_keep) (first | (go_at_call 18; refine Calls.mono C1 ?_; rintro e v1 ⟨rfl, m1, C2⟩) | (go_at_call 19; refine Calls.mono C2 ?_; rintro e v2 ⟨rfl, m2⟩))
          have HF : Hid (TL w v2 q r [(b, #[.int .i64 5, .int .i64 xo, .int .i64 xa, .int .i64 xv], 41)] (.int .i64 0) (.int .i64 0) (.int .i64 D) (.int .i64 D)) := ⟨_, _, _, rfl, rfl, rfl, rfl, m2⟩
          clear C1 C2 m1 m2 HK
          go_wp2_with fail
          go_meet
          case rel => exact HF.out
        by_cases k6 : xk = 6
        · as_aux_lemma =>
          subst k6
          have HD0 : Hid (TM w wb.drew q r S S [(b, #[.int .i64 6, .int .i64 xo, .int .i64 xa, .int .i64 xv], 41)]) := HM.out.below ⟨rfl, rfl, rfl, Nat.le_refl _, fun _ _ => rfl⟩
          have C1 := HD0.out.back xo xa
          have HK : Hid (∀ u, AllB u [(b, #[.int .i64 6, .int .i64 xo, .int .i64 xa, .int .i64 xv], 41)] → u.cell? ⟨b, 1, none⟩ = some (.int .i64 xo) ∧ u.cell? ⟨b, 2, none⟩ = some (.int .i64 xa)) := fun u hu => by
            have hb2 : Box u b #[.int .i64 6, .int .i64 xo, .int .i64 xa, .int .i64 xv] 41 := hu _ (List.mem_singleton_self _)
            exact ⟨hb2.cell 1, hb2.cell 2⟩
          unfold ptr at C1
          generalize (S.back xo xa) = D at *
          clear HD0
          go_wp2_with fail
          go_region_held3 (fun u => u.cell? ⟨b, 1, none⟩ = some (.int .i64 xo) ∧ u.cell? ⟨b, 2, none⟩ = some (.int .i64 xa)) (first | with_reducible exact HK.out _ m2.bx | with_reducible exact HK.out _ m1 | go_keep) (first | (go_at_call 20; refine Calls.mono C1 ?_; rintro e v1 ⟨rfl, m1, C2⟩) | (go_at_call 16; refine Calls.mono C2 ?_; rintro e v2 ⟨rfl, m2⟩))
          have HF : Hid (TL w v2 q r [(b, #[.int .i64 6, .int .i64 xo, .int .i64 xa, .int .i64 xv], 41)] (.int .i64 0) (.int .i64 0) (.int .i64 D.1) (.int .i64 D.1)) := ⟨_, _, _, rfl, rfl, rfl, rfl, m2⟩
          clear C1 C2 m1 m2 HK
          go_wp2_with fail
          go_meet
          case rel => exact HF.out
        as_aux_lemma =>
        have HF : Hid (TL w wb q r [(b, #[.int .i64 xk, .int .i64 xo, .int .i64 xa, .int .i64 xv], 41)] (.int .i64 0) (.int .i64 0) (.int .i64 0) (.int .i64 0)) := ⟨S, _, _, rfl, rfl, rfl, rfl, HM.out⟩
        go_wp2_with fail
        go_meet
        case rel => exact HF.out
      case rest =>
        obtain ⟨S1, e1, x1, rfl, rfl, rfl, rfl, hT⟩ := hcut
        have hT2 := hT.less (K' := []) (fun x hx => by cases hx)
        obtain ⟨F1, h1, _⟩ := hT2.pq
        have cL := len_at h1
        obtain ⟨vw, vd, hir⟩ : ∃ vw vd, ∃ G, IsRf wc w.heap.size r S1 G vw vd := by
          obtain ⟨G, ⟨vw, vd, h, _⟩, _⟩ := hT2.pr
          exact ⟨vw, vd, G, h⟩
        obtain ⟨G, hir⟩ := hir
        obtain ⟨aw, cw, hvw⟩ := ownsRow_slice hir.rw
        obtain ⟨ad, cd, hvd⟩ := ownsRow_slice hir.rd
        have q0 : wc.cell? ⟨r, 0, none⟩ = some (.slice aw S1.wait.length cw) := by rw [← hvw]; exact hir.box.cell 0
        have q1 : wc.cell? ⟨r, 1, none⟩ = some (.slice ad S1.due.length cd) := by rw [← hvd]; exact hir.box.cell 1
        have HT := hid hT2
        clear hT hT2 h1 hir hvw hvd HM d0 d1 d2 d3
        unfold ptr at cL
        generalize S1.wait.length = n1 at *
        generalize S1.due.length = n2 at *
        go_wp2_with fail
        refine Calls.mono cL ?_
        rintro e u2 ⟨rfl, nq2, rfl⟩
        clear cL
        go_wp2_with fail
        go_roundw
        case rel => exact ⟨k + 1, by omega, by omega, by simp, S1, HT.out.below ⟨rfl, rfl, rfl, Nat.le_refl _, fun _ _ => rfl⟩⟩
        case measure => simp only [intOf]; omega
    · have C7 := awake_at wa
      have HB : Hid (Below w.heap.size w wa) := hS.bel
      clear hS hrel HRD
      by_cases hg : (k : Int) < (n0 : Int)
      · have hk3 : ¬ (k : Int) < 1200 := by omega
        go_wp2_with fail
        refine Calls.mono C7 ?_
        rintro e v7 ⟨rfl, b7⟩
        have B7 : Hid (Below w.heap.size w v7) := HB.out.trans (b7.mono HB.out.size)
        clear C7 b7
        go_wp2_with fail
        go_ret
        exact ⟨rfl, B7.out⟩
      · go_wp2_with fail
        refine Calls.mono C7 ?_
        rintro e v7 ⟨rfl, b7⟩
        have B7 : Hid (Below w.heap.size w v7) := HB.out.trans (b7.mono HB.out.size)
        clear C7 b7
        go_wp2_with fail
        go_ret
        exact ⟨rfl, B7.out⟩
end Go.Proofs.Ytlbnilendcelkaa
