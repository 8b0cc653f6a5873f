/-
  'lived', walked.
-/
import Derived.Test.YtafiopjgegmfoaaLResM
import Derived.Test.YtafiopjgegmfoaaLate
import Derived.Deep.RegionLaw
import Derived.Deep.AppendLies
import Derived.Deep.RegionHeld3
namespace Go.Proofs.Ytafiopjgegmfoaa.T
open Go.RowKit Go.Proofs.Ytafiopjgegmfoaa.C
theorem enter34 : ∀ args w, (callFunc 9 args).run Try.prog w = .ok (.enter 9 args) w := enters_of Try.func9 (by kernel_rfl) rfl
theorem LR.drew {w0 u : World} {q : LP} {n : Nat} (h : LR w0 u q n) : LR w0 u.drew q n := by
  obtain ⟨S, l, G, P, A, gp, hp, cur, h1, h2, h3⟩ := h
  exact ⟨S, l, G, P, A, gp, hp, cur, h1.below ⟨rfl, rfl, rfl, Nat.le_refl _, fun _ _ => rfl⟩, h2, h3⟩
theorem step_st {S S' : M} {x x' : TX} {v e : Int} (h : x.step S = (v, e, S', x')) : v = x'.st := by
  unfold TX.step TX.go TX.fin at h
  repeat' split at h
  all_goals
    injection h with h1 h2
    injection h2 with h2 h3
    injection h3 with h3 h4
    rw [← h1, ← h4]
    try rfl
set_option maxHeartbeats 400000000 in
set_option maxRecDepth 100000 in
theorem lived_at (w : World) (a : Option Addr) (N c : Nat) (os : List Op4) (hN : os.length = N) (hR : RdOps w a os) :
    Calls Try.prog 5 #[.slice a N c] w fun r w' => ∃ av S A, r = .returned (.tuple #[av, .agg (valsTo S 6), .bool true]) ∧ LDone w w' av S A := by
  have hmf : ∀ (fn : Fn) (first cap : Array Value) (w : World), (Instr.makeFunc fn first cap).run Try.prog w = .ok (.func fn first cap) w := fun _ _ _ _ => rfl
  have h34 := enter34
  have HR : Hid (RdOps w a os ∧ os.length = N) := ⟨hR, hN⟩
  clear hN hR
  obtain ⟨v0, hv0⟩ : ∃ v0, v0 = (w.alloc (.cells z6 24)).alloc (.cells z6 24) := ⟨_, rfl⟩
  have s1 : (w.alloc (.cells z6 24)).heap.size = w.heap.size + 1 := by simp
  have x2 := Box.new (w.alloc (.cells z6 24)) z6 24
  rw [s1, ← hv0] at x2
  have x1 : Box v0 w.heap.size z6 24 := by rw [hv0]; exact (Box.new w _ 24).alloc _
  have hb0 : Below w.heap.size w v0 := by rw [hv0]; exact ((Below.refl _ _).alloc (Nat.le_refl _) _).alloc (by simp) _
  have cn := hg_new (n := 6) (w0 := w) hb0 (by omega) (by omega)
  have HV : Hid (v0 = (w.alloc (.cells z6 24)).alloc (.cells z6 24)) := hv0
  have HX : Hid (Box v0 w.heap.size z6 24 ∧ Box v0 (w.heap.size + 1) z6 24) := ⟨x1, x2⟩
  unfold ptr at cn
  clear hb0 x1 x2 hv0 s1
  go_enter Try.func5, Try.ntmps5
  go_wp2_with fail
  unfold Hid z6 at HV
  rw [← HV]
  clear HV
  refine Calls.mono cn ?_
  rintro e w1 ⟨m, gm, rfl, h, hb1⟩
  have L0 : Hid (LI w (li6 w1 m) ⟨m, gm, w1.heap.size, w1.heap.size + 1, w1.heap.size + 1 + 1, w1.heap.size + 1 + 1 + 1, w.heap.size, w.heap.size + 1⟩ 0) := LI.start h _ _ (fun y hy => by
    rcases hy with rfl | rfl
    · exact ⟨HX.out.1.below hb1 HX.out.1.lt, fun hg => by have := HX.out.1.lt; omega⟩
    · exact ⟨HX.out.2.below hb1 HX.out.2.lt, fun hg => by have := HX.out.2.lt; omega⟩)
  clear h cn HX hb1
  go_upto_region 9 with fail
  obtain ⟨w6, hw6⟩ : ∃ w6, w6 = li6 w1 m := ⟨_, rfl⟩
  rw [← hw6] at L0
  unfold li6 at hw6
  rw [← hw6]
  clear hw6
  obtain ⟨mx, hmx⟩ : ∃ mx, mx = w1.heap.size := ⟨_, rfl⟩
  obtain ⟨tb, htb⟩ : ∃ tb, tb = w1.heap.size + 1 := ⟨_, rfl⟩
  obtain ⟨hb, hhb⟩ : ∃ hb, hb = w1.heap.size + 1 + 1 := ⟨_, rfl⟩
  obtain ⟨ab, hab⟩ : ∃ ab, ab = w1.heap.size + 1 + 1 + 1 := ⟨_, rfl⟩
  obtain ⟨l2, hl2⟩ : ∃ l2, l2 = w.heap.size + 1 := ⟨_, rfl⟩
  obtain ⟨l1, hl1⟩ : ∃ l1, l1 = w.heap.size := ⟨_, rfl⟩
  rw [← hab, ← hhb, ← htb, ← hmx, ← hl2, ← hl1] at L0
  rw [← hab, ← hhb, ← htb, ← hmx, ← hl2, ← hl1]
  have HL12 : Hid (l2 ≠ l1) := by show l2 ≠ l1; omega
  have HLO : Hid (w.heap.size ≤ l2) := by show w.heap.size ≤ l2; omega
  have HLO1 : Hid (w.heap.size ≤ l1) := by show w.heap.size ≤ l1; omega
  clear hmx htb hhb hab hl2 hl1
  go_wp2_with fail
  go_loopw [41] (fun i u' => ∃ k : Nat, k ≤ 4 ∧ i = .int .i64 (k : Int) ∧ LI w u' ⟨m, gm, mx, tb, hb, ab, l1, l2⟩ k) (fun i _ => 4 - (civ i).toNat)
  case atStart => exact ⟨0, by omega, rfl, L0.out⟩
  case round =>
    obtain ⟨k, hk, rfl, hLI⟩ := hrel
    have HLI : Hid (LI w wr ⟨m, gm, mx, tb, hb, ab, l1, l2⟩ k) := hLI
    clear hLI
    by_cases hlt : k < 4
    · have hki : (k : Int) < 4 := by omega
      obtain ⟨l, G, P, gp, hp, hm, hl, hall⟩ := HLI.out
      have hPl : (hpt P).length ≤ 1000 := by simp [hpt, hm.hm.len]; omega
      have ca := anew_at hm k hlt hPl
      have HN : Hid (∀ u', (∃ g b G', LM w u' ⟨m, gm, mx, tb, hb, ab, l1, l2⟩ (C.M0 6) (l ++ [(g, X0 ((k : Int) + 1) (C.M0 6).k)]) G' (P ++ [b]) (List.replicate k H0 ++ [⟨(C.M0 6).k, 0, [], [], false⟩]) (upd gp k (ptr g)) (upd hp k (ptr b.h)) (hpt P ++ [ptr b.h])) → LI w u' ⟨m, gm, mx, tb, hb, ab, l1, l2⟩ (k + 1)) := fun u' ⟨g, b, G', hh⟩ => LI.next hm hl hall hh
      unfold ptr at ca
      clear hm hl hall hPl
      go_wp2_with fail
      refine ca.mono ?_
      rintro r u' ⟨rfl, hh⟩
      have HN2 : Hid (LI w u' ⟨m, gm, mx, tb, hb, ab, l1, l2⟩ (k + 1)) := HN.out u' hh
      clear hh HN ca HLI
      go_wp2_with fail
      exact ⟨⟨k + 1, by omega, by simp, HN2.out⟩, by simp [civ]; omega⟩
    · have hk4 : k = 4 := by omega
      have hkk : (k : Int) = 4 := by omega
      have HR0 : Hid (LR w wr ⟨m, gm, mx, tb, hb, ab, l1, l2⟩ 4) := by
        have := HLI.out
        rw [hk4] at this
        exact this.four
      simp only [hkk]
      clear HLI L0 hkk hk4 hlt hk
      go_wp2_with fail
      go_loopw [13] (fun i u' => ∃ k : Nat, k ≤ 300 ∧ i = .int .i64 (k : Int) ∧ LR w u' ⟨m, gm, mx, tb, hb, ab, l1, l2⟩ (k + 4)) (fun i _ => 300 - (civ i).toNat)
      case atStart => exact ⟨0, by omega, rfl, HR0.out⟩
      case round =>
        obtain ⟨k, hk, rfl, hLR⟩ := hrel
        have HLR : Hid (LR w wr ⟨m, gm, mx, tb, hb, ab, l1, l2⟩ (k + 4)) := hLR
        clear hLR
        by_cases hlt : k < N ∧ k < 300
        · have h1 : (k : Int) < (N : Int) := by omega
          have h2 : (k : Int) < 300 := by omega
          obtain ⟨S, l, G, P, A, gp, hp, cur, hm, hq, hA⟩ := HLR.out
          obtain ⟨bo, oo, x4, rfl, hbo, c0, c1, c2, c3⟩ := HR.out.1.at wr hm.hg.bel k (by rw [HR.out.2]; exact hlt.1)
          obtain ⟨who, kd, ii, vv⟩ := x4
          dsimp only at c0 c1 c2 c3
          have hm1 := hm.below (u' := wr.alloc (.cells #[.int .i64 who, .int .i64 kd, .int .i64 ii, .int .i64 vv] 50)) ((Below.refl _ _).alloc (Nat.le_refl _) _)
          have bo1 := Box.new wr #[.int .i64 who, .int .i64 kd, .int .i64 ii, .int .i64 vv] 50
          go_upto_region 19 with fail
          obtain ⟨u1, hu1⟩ : ∃ u1, u1 = wr.alloc (.cells #[.int .i64 who, .int .i64 kd, .int .i64 ii, .int .i64 vv] 50) := ⟨_, rfl⟩
          rw [← hu1] at hm1 bo1 ⊢
          clear hu1 hm c0 c1 c2 c3 HLR
          have HM1 : Hid (LM w u1 ⟨m, gm, mx, tb, hb, ab, l1, l2⟩ S l G P A gp hp (hpt P)) := hm1
          have HQ1 : Hid (LQ S l P A gp hp cur ∧ Bd A (k + 4)) := ⟨hq, hA⟩
          have e0 : u1.cell? ⟨wr.heap.size, 0, none⟩ = some (.int .i64 who) := bo1.cell 0
          have e1 : u1.cell? ⟨wr.heap.size, 1, none⟩ = some (.int .i64 kd) := bo1.cell 1
          have e2 : u1.cell? ⟨wr.heap.size, 2, none⟩ = some (.int .i64 ii) := bo1.cell 2
          clear hm1 hq hA bo1
          generalize wr.heap.size = ob at *
          have cp1 : ∀ w', Calls Try.prog 12 #[.int .i64 who, .int .i64 4] w' fun r w'' => r = .returned (.int .i64 (who % 4)) ∧ w'' = w' := fun w' => kitPick_at who 4 w' (by omega) (by omega)
          have cp2 : ∀ w', Calls Try.prog 12 #[.int .i64 ii, .int .i64 6] w' fun r w'' => r = .returned (.int .i64 (ii % 6)) ∧ w'' = w' := fun w' => kitPick_at ii 6 w' (by omega) (by omega)
          obtain ⟨j, hj, hjm⟩ : ∃ j : Nat, j < 4 ∧ who % 4 = (j : Int) := ⟨(who % 4).toNat, by omega, by omega⟩
          obtain ⟨i, hi⟩ : ∃ i : Int, ii % 6 = i := ⟨_, rfl⟩
          have hi6 : 0 ≤ i ∧ i < 6 := by omega
          rw [hjm] at cp1
          rw [hi] at cp2
          clear hjm hi
          go_quiet (first | (go_at_call_of 12 (Value.int .i64 4); exact Calls.quiet_of_same (cp1 _)) | (go_at_call_of 12 (Value.int .i64 6); exact Calls.quiet_of_same (cp2 _)))
          obtain ⟨u2, hu2⟩ : ∃ u2, u2 = u1.drewN nq := ⟨_, rfl⟩
          rw [← hu2]
          have hm2 : LM w u2 ⟨m, gm, mx, tb, hb, ab, l1, l2⟩ S l G P A gp hp (hpt P) := HM1.out.below (by rw [hu2]; exact ⟨rfl, rfl, rfl, Nat.le_refl _, fun _ _ => rfl⟩)
          have e3 : u2.cell? ⟨ob, 1, none⟩ = some (.int .i64 kd) := by rw [hu2]; exact e1
          clear hu2 e0 e1 e2 cp1 cp2 HM1
          obtain ⟨g, x, h, b, hg1, hl, hA1, hP1, hh1⟩ := HQ1.out.1.at hj
          obtain ⟨oh, _⟩ := hm2.hm.one _ b h hP1 hA1
          have hjj : j = 0 ∨ j = 1 ∨ j = 2 ∨ j = 3 := by omega
          have ct : u2.cell? ⟨tb, j, none⟩ = some (.pointer (some ⟨g, 0, none⟩)) := by
            rw [hm2.bt.cell j]
            rcases hjj with rfl | rfl | rfl | rfl <;> exact congrArg some hg1
          have ch : u2.cell? ⟨hb, j, none⟩ = some (.pointer (some ⟨b.h, 0, none⟩)) := by
            rw [hm2.bh.cell j]
            rcases hjj with rfl | rfl | rfl | rfl <;> exact congrArg some hh1
          have hj4 : (j : Int) < 4 := by omega
          have HM2 : Hid (LM w u2 ⟨m, gm, mx, tb, hb, ab, l1, l2⟩ S l G P A gp hp (hpt P) ∧ OneH u2 w.heap.size b h) := ⟨hm2, oh⟩
          have HF : Hid (gp j = ptr g ∧ l[cur j]? = some (g, x) ∧ A[cur j]? = some h ∧ P[cur j]? = some b ∧ hp j = ptr b.h) := ⟨hg1, hl, hA1, hP1, hh1⟩
          clear hm2 oh hg1 hl hA1 hP1 hh1 hjj
          by_cases k10 : kd = 10
          · as_aux_lemma =>
              subst k10
              obtain ⟨ra, hra⟩ : ∃ ra, ra = x.abort S := ⟨_, rfl⟩
              obtain ⟨e, S', x'⟩ := ra
              have cab := HM2.out.1.hg.abort (V := fun _ => False) HF.out.2.1 hra.symm
              have HRA : Hid (x.abort S = (e, S', x')) := hra.symm
              unfold ptr at cab
              clear hra
              go_wp2_with (go_at_call 15; refine cab.mono ?_; rintro r' u3 ⟨rfl, t3⟩; have HJ : Hid (LR w u3 ⟨m, gm, mx, tb, hb, ab, l1, l2⟩ (k + 1 + 4)) := (LR.aborted HM2.out.1 HQ1.out.1 HQ1.out.2 hj HF.out.2.1 HRA.out t3).more; clear t3)
              go_roundw
              case rel => exact ⟨k + 1, by omega, by simp, HJ.out⟩
              case measure => simp only [civ]; omega
          by_cases kK : kd = 2
          · as_aux_lemma =>
              subst kK
              obtain ⟨ra, hra⟩ : ∃ ra, ra = x.write S i (10 * (k : Int) + (j : Int)) := ⟨_, rfl⟩
              obtain ⟨e, x'⟩ := ra
              have cww := HM2.out.1.hg.write (V := fun _ => False) HF.out.2.1 i (10 * (k : Int) + (j : Int)) hra.symm
              have HK : Hid (∀ u3, ToG w u2 m gm S (l.set (cur j) (g, x')) G (fun _ => False) u3 → (e ≠ 0 → LR w u3 ⟨m, gm, mx, tb, hb, ab, l1, l2⟩ (k + 1 + 4)) ∧ (e = 0 → u3.cell? ⟨hb, j, none⟩ = some (.pointer (some ⟨b.h, 0, none⟩)) ∧ u3.cell? ⟨b.h, 3, none⟩ = some (.map (some b.mb)) ∧ ∃ w', (Instr.mapUpdate 30 (.map (some b.mb)) (.int .i64 i) (.int .i64 (10 * (k : Int) + (j : Int)))).run Try.prog u3 = .ok () w' ∧ LR w w' ⟨m, gm, mx, tb, hb, ab, l1, l2⟩ (k + 1 + 4))) := fun u3 t3 => by
                have hm3 := HM2.out.1.call t3
                refine ⟨fun he => (LR.writeNo HM2.out.1 HQ1.out.1 HQ1.out.2 hj HF.out.2.1 HF.out.2.2.1 hi6 hra.symm t3 he).more, fun he => ?_⟩
                subst he
                obtain ⟨w', h1, h2⟩ := LR.writeYes HM2.out.1 HQ1.out.1 HQ1.out.2 hj HF.out.2.1 HF.out.2.2.1 HF.out.2.2.2.1 hi6 hra.symm t3
                refine ⟨?_, (hm3.hm.one _ b h HF.out.2.2.2.1 HF.out.2.2.1).1.box.cell 3, w', h1, h2.more⟩
                rw [hm3.bh.cell j]
                have hjj : j = 0 ∨ j = 1 ∨ j = 2 ∨ j = 3 := by omega
                have hh := HF.out.2.2.2.2
                rcases hjj with rfl | rfl | rfl | rfl <;> exact congrArg some hh
              unfold ptr at cww
              clear hra
              have HRd : Hid True := trivial
              go_wp2_with fail
              refine cww.mono ?_
              rintro r' u3 ⟨rfl, t3⟩
              obtain ⟨hn1, hy1⟩ := HK.out u3 t3
              clear t3 HK cww
              by_cases he0 : e = 0
              · obtain ⟨ch3, cm3, w', hr3, hj3⟩ := hy1 he0
                have HJ : Hid (LR w w' ⟨m, gm, mx, tb, hb, ab, l1, l2⟩ (k + 1 + 4)) := hj3
                subst he0
                clear hn1 hy1 hj3
                go_wp2_with fail
                go_roundw
                case rel => exact ⟨k + 1, by omega, by simp, HJ.out⟩
                case measure => simp only [civ]; omega
              · have he1 : (e == 0) = false := by simpa using he0
                have HJ : Hid (LR w u3 ⟨m, gm, mx, tb, hb, ab, l1, l2⟩ (k + 1 + 4)) := hn1 he0
                clear hn1 hy1
                go_wp2_with fail
                go_roundw
                case rel => exact ⟨k + 1, by omega, by simp, HJ.out⟩
                case measure => simp only [civ]; omega
          by_cases kK3 : kd = 3
          · as_aux_lemma =>
              subst kK3
              obtain ⟨ra, hra⟩ : ∃ ra, ra = x.write S i (10 * (k : Int) + (j : Int)) := ⟨_, rfl⟩
              obtain ⟨e, x'⟩ := ra
              have cww := HM2.out.1.hg.write (V := fun _ => False) HF.out.2.1 i (10 * (k : Int) + (j : Int)) hra.symm
              have HK : Hid (∀ u3, ToG w u2 m gm S (l.set (cur j) (g, x')) G (fun _ => False) u3 → (e ≠ 0 → LR w u3 ⟨m, gm, mx, tb, hb, ab, l1, l2⟩ (k + 1 + 4)) ∧ (e = 0 → u3.cell? ⟨hb, j, none⟩ = some (.pointer (some ⟨b.h, 0, none⟩)) ∧ u3.cell? ⟨b.h, 3, none⟩ = some (.map (some b.mb)) ∧ ∃ w', (Instr.mapUpdate 30 (.map (some b.mb)) (.int .i64 i) (.int .i64 (10 * (k : Int) + (j : Int)))).run Try.prog u3 = .ok () w' ∧ LR w w' ⟨m, gm, mx, tb, hb, ab, l1, l2⟩ (k + 1 + 4))) := fun u3 t3 => by
                have hm3 := HM2.out.1.call t3
                refine ⟨fun he => (LR.writeNo HM2.out.1 HQ1.out.1 HQ1.out.2 hj HF.out.2.1 HF.out.2.2.1 hi6 hra.symm t3 he).more, fun he => ?_⟩
                subst he
                obtain ⟨w', h1, h2⟩ := LR.writeYes HM2.out.1 HQ1.out.1 HQ1.out.2 hj HF.out.2.1 HF.out.2.2.1 HF.out.2.2.2.1 hi6 hra.symm t3
                refine ⟨?_, (hm3.hm.one _ b h HF.out.2.2.2.1 HF.out.2.2.1).1.box.cell 3, w', h1, h2.more⟩
                rw [hm3.bh.cell j]
                have hjj : j = 0 ∨ j = 1 ∨ j = 2 ∨ j = 3 := by omega
                have hh := HF.out.2.2.2.2
                rcases hjj with rfl | rfl | rfl | rfl <;> exact congrArg some hh
              unfold ptr at cww
              clear hra
              have HRd : Hid True := trivial
              go_wp2_with fail
              refine cww.mono ?_
              rintro r' u3 ⟨rfl, t3⟩
              obtain ⟨hn1, hy1⟩ := HK.out u3 t3
              clear t3 HK cww
              by_cases he0 : e = 0
              · obtain ⟨ch3, cm3, w', hr3, hj3⟩ := hy1 he0
                have HJ : Hid (LR w w' ⟨m, gm, mx, tb, hb, ab, l1, l2⟩ (k + 1 + 4)) := hj3
                subst he0
                clear hn1 hy1 hj3
                go_wp2_with fail
                go_roundw
                case rel => exact ⟨k + 1, by omega, by simp, HJ.out⟩
                case measure => simp only [civ]; omega
              · have he1 : (e == 0) = false := by simpa using he0
                have HJ : Hid (LR w u3 ⟨m, gm, mx, tb, hb, ab, l1, l2⟩ (k + 1 + 4)) := hn1 he0
                clear hn1 hy1
                go_wp2_with fail
                go_roundw
                case rel => exact ⟨k + 1, by omega, by simp, HJ.out⟩
                case measure => simp only [civ]; omega
          by_cases kB : kd = 11
          · as_aux_lemma =>
              subst kB
              have cst := HM2.out.1.hg.status HF.out.2.1
              have hQl : (hpt P).length ≤ 1000 := by simp [hpt, HM2.out.1.hm.len]; have := HQ1.out.2.1; omega
              have can := anew_at HM2.out.1 j hj hQl
              have HK : Hid (x.st = 3 ∨ x.st = 4 → ∀ u3, (∃ g' b' G', LM w u3 ⟨m, gm, mx, tb, hb, ab, l1, l2⟩ S (l ++ [(g', X0 ((j : Int) + 1) S.k)]) G' (P ++ [b']) (A ++ [⟨S.k, 0, [], [], false⟩]) (upd gp j (ptr g')) (upd hp j (ptr b'.h)) (hpt P ++ [ptr b'.h])) → LR w u3 ⟨m, gm, mx, tb, hb, ab, l1, l2⟩ (k + 1 + 4)) := fun hs u3 ⟨g', b', G', hh⟩ => by
                have := LR.anew HM2.out.1 HQ1.out.1 HQ1.out.2 hj HF.out.2.1 hs hh
                rwa [show k + 4 + 1 = k + 1 + 4 by omega] at this
              have HN : Hid (LR w u2 ⟨m, gm, mx, tb, hb, ab, l1, l2⟩ (k + 1 + 4)) := LR.more ⟨_, _, _, _, _, _, _, _, HM2.out.1, HQ1.out.1, HQ1.out.2⟩
              unfold ptr at cst can
              clear hQl
              generalize hst : x.st = st at cst HK
              clear hst
              by_cases h3 : st = 3
              · subst h3
                go_wp2_with (go_at_call 16; refine cst.mono ?_; rintro r' wx ⟨rfl, hwx⟩; subst wx)
                refine can.mono ?_
                rintro r' u3 ⟨rfl, hh⟩
                have HJ : Hid (LR w u3 ⟨m, gm, mx, tb, hb, ab, l1, l2⟩ (k + 1 + 4)) := HK.out (by simp) u3 hh
                clear hh HK can
                go_wp2_with fail
                go_roundw
                case rel => exact ⟨k + 1, by omega, by simp, HJ.out⟩
                case measure => simp only [civ]; omega
              · have h3' : (st == 3) = false := by simpa using h3
                by_cases h4 : st = 4
                · subst h4
                  go_wp2_with (go_at_call 16; refine cst.mono ?_; rintro r' wx ⟨rfl, hwx⟩; subst wx)
                  refine can.mono ?_
                  rintro r' u3 ⟨rfl, hh⟩
                  have HJ : Hid (LR w u3 ⟨m, gm, mx, tb, hb, ab, l1, l2⟩ (k + 1 + 4)) := HK.out (by simp) u3 hh
                  clear hh HK can
                  go_wp2_with fail
                  go_roundw
                  case rel => exact ⟨k + 1, by omega, by simp, HJ.out⟩
                  case measure => simp only [civ]; omega
                · have h4' : (st == 4) = false := by simpa using h4
                  have HJ : Hid (LR w u2 ⟨m, gm, mx, tb, hb, ab, l1, l2⟩ (k + 1 + 4)) := HN.out
                  go_wp2_with (go_at_call 16; refine cst.mono ?_; rintro r' wx ⟨rfl, hwx⟩; subst wx)
                  go_roundw
                  case rel => exact ⟨k + 1, by omega, by simp, HJ.out⟩
                  case measure => simp only [civ]; omega
          by_cases nZ : kd = 0 ∨ kd = 1 ∨ kd = 4 ∨ kd = 5 ∨ kd = 6
          · obtain ⟨ig, hig, hgz0, hgz1, hgz2⟩ := info_parts infoG
            obtain ⟨rr, hrr⟩ : ∃ rr, rr = x.read S i := ⟨_, rfl⟩
            obtain ⟨v, e, S', x'⟩ := rr
            have hwi : (Lit.int .i64 i).wf = true := WalkArith.wf_i64 (by omega)
            have crd := HM2.out.1.hg.read (V := fun _ => False) HF.out.2.1 i hwi hrr.symm
            have cm2 : u2.cell? ⟨b.h, 3, none⟩ = some (.map (some b.mb)) := HM2.out.2.box.cell 3
            have clk := HM2.out.2.mp.look 30 3 0 Try.underlying30 Try.zeroValue3 i hwi
            unfold encI at clk
            have HOwn : Hid (e = 0 → gt h.wr i ≠ none → gt h.wr i = some v) := (HQ1.out.1.read hj HF.out.2.1 HF.out.2.2.1 hi6 hrr.symm).2
            have HNo : Hid (∀ u3, ToG w u2 m gm S' (l.set (cur j) (g, x')) G (fun _ => False) u3 → ¬ (e = 0 ∧ gt h.wr i = none) → LR w u3 ⟨m, gm, mx, tb, hb, ab, l1, l2⟩ (k + 1 + 4)) := fun u3 t3 hno => by
              have := (LR.readNo HM2.out.1 HQ1.out.1 HQ1.out.2 hj HF.out.2.1 HF.out.2.2.1 hi6 hrr.symm t3 hno).more
              rwa [show k + 4 + 1 = k + 1 + 4 by omega] at this
            have HB3 : Hid (∀ u3, ToG w u2 m gm S' (l.set (cur j) (g, x')) G (fun _ => False) u3 → u3.cell? ⟨hb, j, none⟩ = some (.pointer (some ⟨b.h, 0, none⟩)) ∧ OneH u3 w.heap.size b h ∧ Box u3 hb #[hp 0, hp 1, hp 2, hp 3] 44 ∧ w.heap.size ≤ u3.heap.size) := fun u3 t3 => by
              have hm3 := HM2.out.1.call t3
              refine ⟨?_, (hm3.hm.one _ b h HF.out.2.2.2.1 HF.out.2.2.1).1, hm3.bh, hm3.hg.mm.hB⟩
              rw [hm3.bh.cell j]
              have hjj : j = 0 ∨ j = 1 ∨ j = 2 ∨ j = 3 := by omega
              have hh := HF.out.2.2.2.2
              rcases hjj with rfl | rfl | rfl | rfl <;> exact congrArg some hh
            have HYes : Hid (e = 0 → gt h.wr i = none → ∀ u3 u6 u7 rv', ToG w u2 m gm S' (l.set (cur j) (g, x')) G (fun _ => False) u3 → Below u3.heap.size u3 u6 → u6.grownBy u7 b.rv.ownBlock → u7.ownsRow w.heap.size 35 2 rv' (h.rd.length + 1) (rcs h.rd ++ [.int .i64 i, .int .i64 v]) → (∀ k, rv'.ownBlock = some k → b.rv.ownBlock = some k ∨ u3.heap.size ≤ k) → LR w (u7.setCell ⟨b.h, 2, none⟩ rv') ⟨m, gm, mx, tb, hb, ab, l1, l2⟩ (k + 1 + 4)) := fun he hw u3 u6 u7 rv' t3 h6 hgr hr hv => by
              subst he
              have := LR.readYes HM2.out.1 HQ1.out.1 HQ1.out.2 hj HF.out.2.1 HF.out.2.2.1 HF.out.2.2.2.1 hi6 hrr.symm t3 hw h6 hgr hr hv
              rwa [show k + 4 + 1 = k + 1 + 4 by omega] at this
            have hrdl : h.rd.length ≤ 400 := by have := HQ1.out.2.2 _ _ HF.out.2.2.1; omega
            unfold ptr at crd
            clear hrr hwi
            obtain ⟨yw, hyw⟩ : ∃ yw, yw = (gt h.wr i).getD 0 := ⟨_, rfl⟩
            obtain ⟨yo, hyo⟩ : ∃ yo, yo = (gt h.wr i).isSome := ⟨_, rfl⟩
            rw [← hyw, ← hyo] at clk
            have HYW : Hid (yw = (gt h.wr i).getD 0 ∧ yo = (gt h.wr i).isSome) := ⟨hyw, hyo⟩
            clear hyw hyo
            have HKD : Hid True := trivial
            rcases nZ with rfl | rfl | rfl | rfl | rfl
            · as_aux_lemma =>
                go_wp2_with fail
                refine crd.mono ?_
                rintro r' u3 ⟨rfl, t3⟩
                obtain ⟨ch3, o3, bh3, hB3⟩ := HB3.out u3 t3
                by_cases he0 : e = 0
                · cases yo with
                  | true =>
                    have hsome : gt h.wr i ≠ none := fun hn => by have := HYW.out.2; rw [hn] at this; cases this
                    have hval : gt h.wr i = some v := HOwn.out he0 hsome
                    have HJ : Hid (LR w u3 ⟨m, gm, mx, tb, hb, ab, l1, l2⟩ (k + 1 + 4)) := HNo.out u3 t3 (fun hx => hsome hx.2)
                    have cm3 : u3.cell? ⟨b.h, 3, none⟩ = some (.map (some b.mb)) := o3.box.cell 3
                    have clk3 := mapL_getI o3.mp i (WalkArith.wf_i64 (by omega))
                    rw [hval] at clk3
                    simp only [Option.getD_some] at clk3
                    clear hsome hval t3 crd o3 bh3
                    subst he0
                    go_wp2_with fail
                    go_roundw
                    case rel => exact ⟨k + 1, by omega, by simp, HJ.out⟩
                    case measure => simp only [civ]; omega
                  | false =>
                    have hnone : gt h.wr i = none := by
                      have := HYW.out.2
                      cases hg : gt h.wr i with
                      | none => rfl
                      | some x => rw [hg] at this; cases this
                    have HY3 := HYes.out he0 hnone u3
                    obtain ⟨aa, cc, hrv⟩ := ownsRow_slice o3.row
                    have hrow := o3.row
                    rw [hrv] at hrow HY3
                    obtain ⟨nR, hnR⟩ : ∃ nR, nR = h.rd.length := ⟨_, rfl⟩
                    obtain ⟨xR, hxR⟩ : ∃ xR, xR = rcs h.rd := ⟨_, rfl⟩
                    have bx3 := o3.box
                    unfold hcs at bx3
                    rw [hrv] at bx3
                    rw [← hnR] at hrow HY3 hrdl bx3
                    rw [← hxR] at hrow HY3
                    have T3 : Hid (ToG w u2 m gm S' (l.set (cur j) (g, x')) G (fun _ => False) u3) := t3
                    have HY4 : Hid (∀ u6 u7 rv', Below u3.heap.size u3 u6 → u6.grownBy u7 (Value.slice aa nR cc).ownBlock → u7.ownsRow w.heap.size 35 2 rv' (nR + 1) (xR ++ [.int .i64 i, .int .i64 v]) → (∀ k, rv'.ownBlock = some k → (Value.slice aa nR cc).ownBlock = some k ∨ u3.heap.size ≤ k) → LR w (u7.setCell ⟨b.h, 2, none⟩ rv') ⟨m, gm, mx, tb, hb, ab, l1, l2⟩ (k + 1 + 4)) := fun u6 u7 rv' => HY3 u6 u7 rv' T3.out
                    have HBX : Hid (Box u3 b.h #[.int .i64 h.beg, .int .i64 h.ver, .slice aa nR cc, .map (some b.mb), .bool h.done] 32 ∧ Box u3 hb #[hp 0, hp 1, hp 2, hp 3] 44 ∧ u3.ownsRow w.heap.size 35 2 (.slice aa nR cc) nR xR) := ⟨bx3, bh3, hrow⟩
                    have c1 : u3.cell? ⟨b.h, 2, none⟩ = some (.slice aa nR cc) := bx3.cell 2
                    have f1 : u3.frozen? ⟨b.h, 2, none⟩ = false := bx3.frozen 2
                    have ca : ∀ o, (u3.alloc o).cell? ⟨b.h, 2, none⟩ = some (.slice aa nR cc) := fun o => (bx3.alloc o).cell 2
                    have hjv : (#[hp 0, hp 1, hp 2, hp 3] : Array Value)[j]? = some (.pointer (some ⟨b.h, 0, none⟩)) := (bh3.cell j).symm.trans ch3
                    have cah : ∀ o, (u3.alloc o).cell? ⟨hb, j, none⟩ = some (.pointer (some ⟨b.h, 0, none⟩)) := fun o => ((bh3.alloc o).cell j).trans hjv
                    have HNE : Hid (hb ≠ b.h) := bh3.ne bx3 (by decide)
                    have HK2 : Hid (∀ u6 u', Below u3.heap.size u3 u6 → u6.grownBy u' (Value.slice aa nR cc).ownBlock → (u'.cell? ⟨b.h, 2, none⟩ = some (.slice aa nR cc) ∧ u'.cell? ⟨hb, j, none⟩ = some (.pointer (some ⟨b.h, 0, none⟩))) ∧ u'.frozen? ⟨b.h, 2, none⟩ = false) := fun u6 u' hb' hg => by
                      have nb : ∀ {y : Nat} {cs : Array Value} {t : TypeId}, Box u3 y cs t → t ≠ 35 → Box u' y cs t := fun b ht => by
                        have b6 := b.below hb' b.lt
                        refine (hg.block _ b6.lt (fun e => ?_)).trans b6
                        obtain ⟨cs', hc⟩ := ownsRow_box HBX.out.2.2 _ e.symm
                        exact (b.ne hc ht) rfl
                      have b1 := nb HBX.out.1 (by decide)
                      have b2 := nb HBX.out.2.1 (by decide)
                      exact ⟨⟨b1.cell 2, (b2.cell j).trans hjv⟩, b1.frozen 2⟩
                    have HFin : Hid (∀ u6 u7 gg gc, Below u3.heap.size u3 u6 → u6.grownBy u7 (Value.slice aa nR cc).ownBlock → u7.ownsRow w.heap.size 35 2 (.slice (some ⟨gg, 0, none⟩) (nR + 1) gc) (nR + 1) (xR ++ [.int .i64 i, .int .i64 v]) → ((Value.slice aa nR cc).ownBlock = some gg ∨ gg = u3.heap.size + 1) → LR w (u7.setCell ⟨b.h, 2, none⟩ (.slice (some ⟨gg, 0, none⟩) (nR + 1) gc)) ⟨m, gm, mx, tb, hb, ab, l1, l2⟩ (k + 1 + 4)) := fun u6 u7 gg gc h6 h7 hr hat => HY4.out u6 u7 _ h6 h7 hr (fun k hk => by
                      have e : gg = k := by injection hk
                      subst e
                      rcases hat with h | h
                      · exact .inl h
                      · exact .inr (by omega))
                    have B0 : Below u3.heap.size u3 u3 := Below.refl _ _
                    clear hrow HY3 bx3 bh3 hxR hnR hrv hnone t3 crd o3 hjv T3
                    subst he0
                    go_upto_region 32 with fail
                    have HCS : Hid (u3.drew.cell? ⟨hb, j, none⟩ = some (.pointer (some ⟨b.h, 0, none⟩))) := ch3
                    obtain ⟨w2, hw2⟩ : ∃ w2, w2 = u3.drew.alloc (.cells #[.int .i64 i, .int .i64 v] 35) := ⟨_, rfl⟩
                    have hw2' : (u3.alloc (Obj.cells #[.int .i64 i, .int .i64 v] 35)).drew = w2 := by rw [hw2]; rfl
                    have HBB : Hid (Below u3.heap.size u3 w2) := by rw [hw2]; exact B0.drew.alloc (Nat.le_refl _) _
                    have HRW : Hid (w2.ownsRow w.heap.size 35 2 (.slice aa nR cc) nR xR) := ownsRow_below HBX.out.2.2 HBB.out.block
                    have HNW : Hid (∀ j u, [Value.int .i64 i, .int .i64 v][j]? = some u → w2.cell? ((⟨u3.heap.size, 0, none⟩ : Addr).add j) = some u) := by
                      have hn := World.news_of_block (cs := #[.int .i64 i, .int .i64 v]) (t := 35) (fr := (0, 0)) (heap_alloc_new u3.drew (.cells #[.int .i64 i, .int .i64 v] 35))
                      rw [← hw2] at hn
                      exact hn
                    have HSZ : Hid (w.heap.size ≤ w2.heap.size) := by
                      have h1 := HBB.out.size
                      show w.heap.size ≤ w2.heap.size
                      omega
                    have HCA : Hid (w2.cell? ⟨hb, j, none⟩ = some (.pointer (some ⟨b.h, 0, none⟩)) ∧ w2.cell? ⟨b.h, 2, none⟩ = some (.slice aa nR cc)) := by
                      rw [hw2]
                      exact ⟨cah _, ca _⟩
                    have HS2 : Hid (w2.heap.size = u3.heap.size + 1) := by
                      show w2.heap.size = u3.heap.size + 1
                      rw [hw2]; simp
                    have c1d : u3.drew.cell? ⟨b.h, 2, none⟩ = some (.slice aa nR cc) := c1
                    clear hw2
                    refine wp_region_any (by kernel_rfl) ?_
                    refine wpAny_take (i := 0) (v := ?_) rfl (by kernel_rfl) (by kernel_rfl) (by kernel_rfl) (fun _ _ _ h => h) (Or.inl ⟨by rfl, ?_⟩) ?_
                    rotate_left
                    · intro u
                      go_simp
                      with_reducible rfl
                    simp only [Act.put, List.setIfInBounds_toArray, List.set_cons_zero, List.set_cons_succ, List.getElem_toArray, List.getElem_cons_zero]
                    refine wpAny_take (i := 1) (v := ?_) rfl (by kernel_rfl) (by kernel_rfl) (by kernel_rfl) (fun _ _ _ h => h) (Or.inl ⟨by rfl, ?_⟩) ?_
                    rotate_left
                    · intro u
                      go_simp
                      with_reducible rfl
                    simp only [Act.put, List.setIfInBounds_toArray, List.set_cons_zero, List.set_cons_succ, List.getElem_toArray, List.getElem_cons_zero, List.getElem_cons_succ]
                    refine wpAny_take (i := 3) (v := ?_) rfl (by kernel_rfl) (by kernel_rfl) (by kernel_rfl) (fun _ _ _ h => h) (Or.inl ⟨by rfl, ?_⟩) ?_
                    rotate_left
                    · intro u
                      go_simp
                      with_reducible rfl
                    simp only [Act.put, List.setIfInBounds_toArray, List.set_cons_zero, List.set_cons_succ, List.getElem_toArray, List.getElem_cons_zero, List.getElem_cons_succ]
                    refine wpAny_take (i := 4) (v := ?_) rfl (by kernel_rfl) (by kernel_rfl) (by kernel_rfl) (fun _ _ _ h => h) (Or.inl ⟨by rfl, ?_⟩) ?_
                    rotate_left
                    · intro u
                      go_simp
                      with_reducible rfl
                    simp only [Act.put, List.setIfInBounds_toArray, List.set_cons_zero, List.set_cons_succ, List.getElem_toArray, List.getElem_cons_zero, List.getElem_cons_succ]
                    refine wpAny_take (i := 9) (v := ?_) rfl (by kernel_rfl) (by kernel_rfl) (by kernel_rfl) (fun _ _ _ h => h) (Or.inl ⟨by rfl, ?_⟩) ?_
                    rotate_left
                    · intro u
                      go_simp
                      with_reducible rfl
                    simp only [Act.put, List.setIfInBounds_toArray, List.set_cons_zero, List.set_cons_succ, List.getElem_toArray, List.getElem_cons_zero, List.getElem_cons_succ]
                    refine wpAny_take (i := 10) (v := ?_) rfl (by kernel_rfl) (by kernel_rfl) (by kernel_rfl) (fun _ _ _ h => h) (Or.inl ⟨by rfl, ?_⟩) ?_
                    rotate_left
                    · intro u
                      go_simp
                      with_reducible rfl
                    simp only [Act.put, List.setIfInBounds_toArray, List.set_cons_zero, List.set_cons_succ, List.getElem_toArray, List.getElem_cons_zero, List.getElem_cons_succ]
                    refine wpAny_take (i := 11) (v := ?_) rfl (by kernel_rfl) (by kernel_rfl) (by kernel_rfl) (fun _ _ _ h => h) (Or.inl ⟨by rfl, ?_⟩) ?_
                    rotate_left
                    · intro u
                      go_simp
                      with_reducible rfl
                    simp only [Act.put, List.setIfInBounds_toArray, List.set_cons_zero, List.set_cons_succ, List.getElem_toArray, List.getElem_cons_zero, List.getElem_cons_succ]
                    refine wpAny_of_E (C := SlotsCells [(136, .pointer (some ⟨hb, j, none⟩)), (139, .pointer (some ⟨hb, j, none⟩))] [(⟨hb, j, none⟩, .pointer (some ⟨b.h, 0, none⟩))]) (late := [16]) _ _ _ _ ?_
                    refine wpAnyE_take (i := 2) (v := .pointer (some ⟨b.h, 0, none⟩)) rfl (by kernel_rfl) (by kernel_rfl) (by kernel_rfl) (by kernel_rfl) (by kernel_rfl) (by kernel_rfl) (fun _ _ _ h => h) ?_ (fun fr u h => (SlotsCells.put 137 _ (by rfl)).1 h) (fun fr u h => (SlotsCells.put 137 _ (by rfl)).2 h) ?_ ?_
                    · intro fr u hh
                      obtain ⟨e1, e2⟩ := hh.load (s := 136) (p := ⟨hb, j, none⟩) (v := .pointer (some ⟨b.h, 0, none⟩)) (by simp) (by simp)
                      exact ⟨rfl, by simp [execOp, e1, go_sem, e2]⟩
                    · exact ⟨fun q hq => by simp at hq; rcases hq with rfl | rfl <;> rfl, fun q hq => by simp at hq; subst hq; exact HCS.out⟩
                    simp only [Act.put, List.setIfInBounds_toArray, List.set_cons_zero, List.set_cons_succ, List.getElem_toArray, List.getElem_cons_zero, List.getElem_cons_succ]
                    refine wpAnyE_take (i := 5) (v := .pointer (some ⟨b.h, 0, none⟩)) rfl (by kernel_rfl) (by kernel_rfl) (by kernel_rfl) (by kernel_rfl) (by kernel_rfl) (by kernel_rfl) (fun _ _ _ h => h) ?_ (fun fr u h => (SlotsCells.put 140 _ (by rfl)).1 h) (fun fr u h => (SlotsCells.put 140 _ (by rfl)).2 h) ?_ ?_
                    · intro fr u hh
                      obtain ⟨e1, e2⟩ := hh.load (s := 139) (p := ⟨hb, j, none⟩) (v := .pointer (some ⟨b.h, 0, none⟩)) (by simp) (by simp)
                      exact ⟨rfl, by simp [execOp, e1, go_sem, e2]⟩
                    · exact ⟨fun q hq => by simp at hq; rcases hq with rfl | rfl <;> rfl, fun q hq => by simp at hq; subst hq; exact HCS.out⟩
                    simp only [Act.put, List.setIfInBounds_toArray, List.set_cons_zero, List.set_cons_succ, List.getElem_toArray, List.getElem_cons_zero, List.getElem_cons_succ]
                    refine wpAnyE_pure (i := 6) (v := ?_) rfl (by kernel_rfl) (by kernel_rfl) (by kernel_rfl) (by kernel_rfl) (fun _ _ _ h => h) (fun fr u h => (SlotsCells.put 141 _ (by rfl)).1 h) (fun fr u h => (SlotsCells.put 141 _ (by rfl)).2 h) (.inr ⟨fun q hq => by simp at hq; rcases hq with rfl | rfl <;> rfl, fun q hq => by simp at hq; subst hq; exact HCS.out⟩) (Or.inl ⟨by rfl, ?_⟩) ?_
                    rotate_left
                    · intro u
                      go_simp
                      with_reducible rfl
                    simp only [Act.put, List.setIfInBounds_toArray, List.set_cons_zero, List.set_cons_succ, List.getElem_toArray, List.getElem_cons_zero, List.getElem_cons_succ]
                    refine wpAnyE_pure (i := 7) (v := ?_) rfl (by kernel_rfl) (by kernel_rfl) (by kernel_rfl) (by kernel_rfl) (fun _ _ _ h => h) (fun fr u h => (SlotsCells.put 142 _ (by rfl)).1 h) (fun fr u h => (SlotsCells.put 142 _ (by rfl)).2 h) (.inr ⟨fun q hq => by simp at hq; rcases hq with rfl | rfl <;> rfl, fun q hq => by simp at hq; subst hq; exact HCS.out⟩) (Or.inl ⟨by rfl, ?_⟩) ?_
                    rotate_left
                    · intro u
                      go_simp
                      with_reducible rfl
                    simp only [Act.put, List.setIfInBounds_toArray, List.set_cons_zero, List.set_cons_succ, List.getElem_toArray, List.getElem_cons_zero, List.getElem_cons_succ]
                    refine wpAnyE_some (rs := [8, 12]) (by kernel_rfl) (by simp) (fun iq hiq => ?_)
                    simp only [List.mem_cons, List.not_mem_nil, or_false] at hiq
                    rcases hiq with rfl | rfl
                    · refine wpOp_step rfl (fun Kc hKc => ?_)
                      go_simp
                      refine hKc _ _ ⟨.inr (.inr ⟨fun q hq => by simp at hq; rcases hq with rfl | rfl <;> rfl, fun q hq => by simp at hq; subst hq; exact HCS.out⟩), ?_⟩
                      clear hKc Kc
                      refine wpAnyE_some (rs := [12]) (by kernel_rfl) (by simp) (fun iq hiq => ?_)
                      simp only [List.mem_cons, List.not_mem_nil, or_false] at hiq
                      subst hiq
                      refine wpOp_step rfl (fun Kc hKc => ?_)
                      go_simp
                      refine hKc _ _ ⟨.inr (.inr ⟨fun q hq => by simp at hq; rcases hq with rfl | rfl <;> rfl, fun q hq => by simp at hq; subst hq; exact HCA.out.1⟩), ?_⟩
                      clear hKc Kc
                      refine wpAnyE_some (rs := [13]) (by kernel_rfl) (by simp) (fun iq hiq => ?_)
                      simp only [List.mem_cons, List.not_mem_nil, or_false] at hiq
                      subst hiq
                      refine wpOp_step rfl (fun Kc hKc => ?_)
                      refine step_append_lies _ rfl (.tmp 143) (.tmp 147) 29 rfl w.heap.size 35 ig (.agg #[.int .i64 0, .int .i64 0]) 2 16 Try.underlying29 hig hgz0 hgz1 hgz2 rfl (by decide) (.slice aa nR cc) nR xR rfl (HRW.out) ⟨u3.heap.size, 0, none⟩ 1 1 [.int .i64 i, .int .i64 v] rfl rfl (HNW.out) ?_ (by decide) ?_ ?_ ?_ (u3.heap.size + 1) (HS2.out) ?_
                      · intro u hu; simp at hu; rcases hu with rfl | rfl <;> rfl
                      · unfold maxLen; omega
                      · omega
                      · exact HSZ.out
                      intro gg gc u7 hown hgrow hat hlt1
                      have KK : Hid ((u7.cell? ⟨b.h, 2, none⟩ = some (.slice aa nR cc) ∧ u7.cell? ⟨hb, j, none⟩ = some (.pointer (some ⟨b.h, 0, none⟩))) ∧ u7.frozen? ⟨b.h, 2, none⟩ = false) := HK2.out _ u7 HBB.out hgrow
                      have kf := KK.out.2
                      have kk1 := KK.out.1.1
                      have HF7 : Hid (LR w (u7.setCell ⟨b.h, 2, none⟩ (.slice (some ⟨gg, 0, none⟩) (nR + 1) gc)) ⟨m, gm, mx, tb, hb, ab, l1, l2⟩ (k + 1 + 4)) := HFin.out _ u7 gg gc HBB.out hgrow hown hat
                      clear hown hgrow hat hlt1
                      refine hKc _ _ ⟨.inr (.inr ⟨fun q hq => by simp at hq; rcases hq with rfl | rfl <;> rfl, fun q hq => by simp at hq; subst hq; exact KK.out.1.2⟩), ?_⟩
                      clear hKc Kc
                      refine wpAnyE_pure (i := 14) (v := ?_) rfl (by kernel_rfl) (by kernel_rfl) (by kernel_rfl) (by kernel_rfl) (fun _ _ _ h => h) (fun fr u h => (SlotsCells.put 149 _ (by rfl)).1 h) (fun fr u h => (SlotsCells.put 149 _ (by rfl)).2 h) (.inr ⟨fun q hq => by simp at hq; rcases hq with rfl | rfl <;> rfl, fun q hq => by simp at hq; subst hq; exact KK.out.1.2⟩) (Or.inl ⟨by rfl, ?_⟩) ?_
                      rotate_left
                      · intro u
                        go_simp
                        with_reducible rfl
                      simp only [Act.put, List.setIfInBounds_toArray, List.set_cons_zero, List.set_cons_succ, List.getElem_toArray, List.getElem_cons_zero, List.getElem_cons_succ]
                      refine wpAnyE_pure (i := 15) (v := ?_) rfl (by kernel_rfl) (by kernel_rfl) (by kernel_rfl) (by kernel_rfl) (fun _ _ _ h => h) (fun fr u h => (SlotsCells.put 150 _ (by rfl)).1 h) (fun fr u h => (SlotsCells.put 150 _ (by rfl)).2 h) (.inr ⟨fun q hq => by simp at hq; rcases hq with rfl | rfl <;> rfl, fun q hq => by simp at hq; subst hq; exact KK.out.1.2⟩) (Or.inl ⟨by rfl, ?_⟩) ?_
                      rotate_left
                      · intro u
                        go_simp
                        with_reducible rfl
                      simp only [Act.put, List.setIfInBounds_toArray, List.set_cons_zero, List.set_cons_succ, List.getElem_toArray, List.getElem_cons_zero, List.getElem_cons_succ]
                      refine wpAnyE_some (rs := [16]) (by kernel_rfl) (by simp) (fun iq hiq => ?_)
                      simp only [List.mem_cons, List.not_mem_nil, or_false] at hiq
                      subst hiq
                      refine wpOp_step rfl (fun Kc hKc => ?_)
                      go_simp
                      refine hKc _ _ ⟨.inr (.inl rfl), ?_⟩
                      clear hKc Kc
                      refine wpAnyE_done (by kernel_rfl) ?_ _
                      go_wp2_with fail
                      go_roundw
                      case rel => exact ⟨k + 1, by omega, by simp, HF7.out⟩
                      case measure => simp only [civ]; omega
                    · refine wpOp_step rfl (fun Kc hKc => ?_)
                      go_simp
                      refine hKc _ _ ⟨.inr (.inr ⟨fun q hq => by simp at hq; rcases hq with rfl | rfl <;> rfl, fun q hq => by simp at hq; subst hq; exact HCA.out.1⟩), ?_⟩
                      clear hKc Kc
                      have c2d := HCA.out.2
                      refine wpAnyE_some (rs := [8]) (by kernel_rfl) (by simp) (fun iq hiq => ?_)
                      simp only [List.mem_cons, List.not_mem_nil, or_false] at hiq
                      subst hiq
                      refine wpOp_step rfl (fun Kc hKc => ?_)
                      go_simp
                      refine hKc _ _ ⟨.inr (.inr ⟨fun q hq => by simp at hq; rcases hq with rfl | rfl <;> rfl, fun q hq => by simp at hq; subst hq; exact HCA.out.1⟩), ?_⟩
                      clear hKc Kc
                      refine wpAnyE_some (rs := [13]) (by kernel_rfl) (by simp) (fun iq hiq => ?_)
                      simp only [List.mem_cons, List.not_mem_nil, or_false] at hiq
                      subst hiq
                      refine wpOp_step rfl (fun Kc hKc => ?_)
                      refine step_append_lies _ rfl (.tmp 143) (.tmp 147) 29 rfl w.heap.size 35 ig (.agg #[.int .i64 0, .int .i64 0]) 2 16 Try.underlying29 hig hgz0 hgz1 hgz2 rfl (by decide) (.slice aa nR cc) nR xR rfl (HRW.out) ⟨u3.heap.size, 0, none⟩ 1 1 [.int .i64 i, .int .i64 v] rfl rfl (HNW.out) ?_ (by decide) ?_ ?_ ?_ (u3.heap.size + 1) (HS2.out) ?_
                      · intro u hu; simp at hu; rcases hu with rfl | rfl <;> rfl
                      · unfold maxLen; omega
                      · omega
                      · exact HSZ.out
                      intro gg gc u7 hown hgrow hat hlt1
                      have KK : Hid ((u7.cell? ⟨b.h, 2, none⟩ = some (.slice aa nR cc) ∧ u7.cell? ⟨hb, j, none⟩ = some (.pointer (some ⟨b.h, 0, none⟩))) ∧ u7.frozen? ⟨b.h, 2, none⟩ = false) := HK2.out _ u7 HBB.out hgrow
                      have kf := KK.out.2
                      have kk1 := KK.out.1.1
                      have HF7 : Hid (LR w (u7.setCell ⟨b.h, 2, none⟩ (.slice (some ⟨gg, 0, none⟩) (nR + 1) gc)) ⟨m, gm, mx, tb, hb, ab, l1, l2⟩ (k + 1 + 4)) := HFin.out _ u7 gg gc HBB.out hgrow hown hat
                      clear hown hgrow hat hlt1
                      refine hKc _ _ ⟨.inr (.inr ⟨fun q hq => by simp at hq; rcases hq with rfl | rfl <;> rfl, fun q hq => by simp at hq; subst hq; exact KK.out.1.2⟩), ?_⟩
                      clear hKc Kc
                      refine wpAnyE_pure (i := 14) (v := ?_) rfl (by kernel_rfl) (by kernel_rfl) (by kernel_rfl) (by kernel_rfl) (fun _ _ _ h => h) (fun fr u h => (SlotsCells.put 149 _ (by rfl)).1 h) (fun fr u h => (SlotsCells.put 149 _ (by rfl)).2 h) (.inr ⟨fun q hq => by simp at hq; rcases hq with rfl | rfl <;> rfl, fun q hq => by simp at hq; subst hq; exact KK.out.1.2⟩) (Or.inl ⟨by rfl, ?_⟩) ?_
                      rotate_left
                      · intro u
                        go_simp
                        with_reducible rfl
                      simp only [Act.put, List.setIfInBounds_toArray, List.set_cons_zero, List.set_cons_succ, List.getElem_toArray, List.getElem_cons_zero, List.getElem_cons_succ]
                      refine wpAnyE_pure (i := 15) (v := ?_) rfl (by kernel_rfl) (by kernel_rfl) (by kernel_rfl) (by kernel_rfl) (fun _ _ _ h => h) (fun fr u h => (SlotsCells.put 150 _ (by rfl)).1 h) (fun fr u h => (SlotsCells.put 150 _ (by rfl)).2 h) (.inr ⟨fun q hq => by simp at hq; rcases hq with rfl | rfl <;> rfl, fun q hq => by simp at hq; subst hq; exact KK.out.1.2⟩) (Or.inl ⟨by rfl, ?_⟩) ?_
                      rotate_left
                      · intro u
                        go_simp
                        with_reducible rfl
                      simp only [Act.put, List.setIfInBounds_toArray, List.set_cons_zero, List.set_cons_succ, List.getElem_toArray, List.getElem_cons_zero, List.getElem_cons_succ]
                      refine wpAnyE_some (rs := [16]) (by kernel_rfl) (by simp) (fun iq hiq => ?_)
                      simp only [List.mem_cons, List.not_mem_nil, or_false] at hiq
                      subst hiq
                      refine wpOp_step rfl (fun Kc hKc => ?_)
                      go_simp
                      refine hKc _ _ ⟨.inr (.inl rfl), ?_⟩
                      clear hKc Kc
                      refine wpAnyE_done (by kernel_rfl) ?_ _
                      go_wp2_with fail
                      go_roundw
                      case rel => exact ⟨k + 1, by omega, by simp, HF7.out⟩
                      case measure => simp only [civ]; omega
                · have he1 : (e == 0) = false := by simpa using he0
                  have HJ : Hid (LR w u3 ⟨m, gm, mx, tb, hb, ab, l1, l2⟩ (k + 1 + 4)) := HNo.out u3 t3 (fun hx => he0 hx.1)
                  clear t3 crd o3 bh3
                  go_wp2_with fail
                  go_roundw
                  case rel => exact ⟨k + 1, by omega, by simp, HJ.out⟩
                  case measure => simp only [civ]; omega
            · as_aux_lemma =>
                go_wp2_with fail
                refine crd.mono ?_
                rintro r' u3 ⟨rfl, t3⟩
                obtain ⟨ch3, o3, bh3, hB3⟩ := HB3.out u3 t3
                by_cases he0 : e = 0
                · cases yo with
                  | true =>
                    have hsome : gt h.wr i ≠ none := fun hn => by have := HYW.out.2; rw [hn] at this; cases this
                    have hval : gt h.wr i = some v := HOwn.out he0 hsome
                    have HJ : Hid (LR w u3 ⟨m, gm, mx, tb, hb, ab, l1, l2⟩ (k + 1 + 4)) := HNo.out u3 t3 (fun hx => hsome hx.2)
                    have cm3 : u3.cell? ⟨b.h, 3, none⟩ = some (.map (some b.mb)) := o3.box.cell 3
                    have clk3 := mapL_getI o3.mp i (WalkArith.wf_i64 (by omega))
                    rw [hval] at clk3
                    simp only [Option.getD_some] at clk3
                    clear hsome hval t3 crd o3 bh3
                    subst he0
                    go_wp2_with fail
                    go_roundw
                    case rel => exact ⟨k + 1, by omega, by simp, HJ.out⟩
                    case measure => simp only [civ]; omega
                  | false =>
                    have hnone : gt h.wr i = none := by
                      have := HYW.out.2
                      cases hg : gt h.wr i with
                      | none => rfl
                      | some x => rw [hg] at this; cases this
                    have HY3 := HYes.out he0 hnone u3
                    obtain ⟨aa, cc, hrv⟩ := ownsRow_slice o3.row
                    have hrow := o3.row
                    rw [hrv] at hrow HY3
                    obtain ⟨nR, hnR⟩ : ∃ nR, nR = h.rd.length := ⟨_, rfl⟩
                    obtain ⟨xR, hxR⟩ : ∃ xR, xR = rcs h.rd := ⟨_, rfl⟩
                    have bx3 := o3.box
                    unfold hcs at bx3
                    rw [hrv] at bx3
                    rw [← hnR] at hrow HY3 hrdl bx3
                    rw [← hxR] at hrow HY3
                    have T3 : Hid (ToG w u2 m gm S' (l.set (cur j) (g, x')) G (fun _ => False) u3) := t3
                    have HY4 : Hid (∀ u6 u7 rv', Below u3.heap.size u3 u6 → u6.grownBy u7 (Value.slice aa nR cc).ownBlock → u7.ownsRow w.heap.size 35 2 rv' (nR + 1) (xR ++ [.int .i64 i, .int .i64 v]) → (∀ k, rv'.ownBlock = some k → (Value.slice aa nR cc).ownBlock = some k ∨ u3.heap.size ≤ k) → LR w (u7.setCell ⟨b.h, 2, none⟩ rv') ⟨m, gm, mx, tb, hb, ab, l1, l2⟩ (k + 1 + 4)) := fun u6 u7 rv' => HY3 u6 u7 rv' T3.out
                    have HBX : Hid (Box u3 b.h #[.int .i64 h.beg, .int .i64 h.ver, .slice aa nR cc, .map (some b.mb), .bool h.done] 32 ∧ Box u3 hb #[hp 0, hp 1, hp 2, hp 3] 44 ∧ u3.ownsRow w.heap.size 35 2 (.slice aa nR cc) nR xR) := ⟨bx3, bh3, hrow⟩
                    have c1 : u3.cell? ⟨b.h, 2, none⟩ = some (.slice aa nR cc) := bx3.cell 2
                    have f1 : u3.frozen? ⟨b.h, 2, none⟩ = false := bx3.frozen 2
                    have ca : ∀ o, (u3.alloc o).cell? ⟨b.h, 2, none⟩ = some (.slice aa nR cc) := fun o => (bx3.alloc o).cell 2
                    have hjv : (#[hp 0, hp 1, hp 2, hp 3] : Array Value)[j]? = some (.pointer (some ⟨b.h, 0, none⟩)) := (bh3.cell j).symm.trans ch3
                    have cah : ∀ o, (u3.alloc o).cell? ⟨hb, j, none⟩ = some (.pointer (some ⟨b.h, 0, none⟩)) := fun o => ((bh3.alloc o).cell j).trans hjv
                    have HNE : Hid (hb ≠ b.h) := bh3.ne bx3 (by decide)
                    have HK2 : Hid (∀ u6 u', Below u3.heap.size u3 u6 → u6.grownBy u' (Value.slice aa nR cc).ownBlock → (u'.cell? ⟨b.h, 2, none⟩ = some (.slice aa nR cc) ∧ u'.cell? ⟨hb, j, none⟩ = some (.pointer (some ⟨b.h, 0, none⟩))) ∧ u'.frozen? ⟨b.h, 2, none⟩ = false) := fun u6 u' hb' hg => by
                      have nb : ∀ {y : Nat} {cs : Array Value} {t : TypeId}, Box u3 y cs t → t ≠ 35 → Box u' y cs t := fun b ht => by
                        have b6 := b.below hb' b.lt
                        refine (hg.block _ b6.lt (fun e => ?_)).trans b6
                        obtain ⟨cs', hc⟩ := ownsRow_box HBX.out.2.2 _ e.symm
                        exact (b.ne hc ht) rfl
                      have b1 := nb HBX.out.1 (by decide)
                      have b2 := nb HBX.out.2.1 (by decide)
                      exact ⟨⟨b1.cell 2, (b2.cell j).trans hjv⟩, b1.frozen 2⟩
                    have HFin : Hid (∀ u6 u7 gg gc, Below u3.heap.size u3 u6 → u6.grownBy u7 (Value.slice aa nR cc).ownBlock → u7.ownsRow w.heap.size 35 2 (.slice (some ⟨gg, 0, none⟩) (nR + 1) gc) (nR + 1) (xR ++ [.int .i64 i, .int .i64 v]) → ((Value.slice aa nR cc).ownBlock = some gg ∨ gg = u3.heap.size + 1) → LR w (u7.setCell ⟨b.h, 2, none⟩ (.slice (some ⟨gg, 0, none⟩) (nR + 1) gc)) ⟨m, gm, mx, tb, hb, ab, l1, l2⟩ (k + 1 + 4)) := fun u6 u7 gg gc h6 h7 hr hat => HY4.out u6 u7 _ h6 h7 hr (fun k hk => by
                      have e : gg = k := by injection hk
                      subst e
                      rcases hat with h | h
                      · exact .inl h
                      · exact .inr (by omega))
                    have B0 : Below u3.heap.size u3 u3 := Below.refl _ _
                    clear hrow HY3 bx3 bh3 hxR hnR hrv hnone t3 crd o3 hjv T3
                    subst he0
                    go_upto_region 32 with fail
                    have HCS : Hid (u3.drew.cell? ⟨hb, j, none⟩ = some (.pointer (some ⟨b.h, 0, none⟩))) := ch3
                    obtain ⟨w2, hw2⟩ : ∃ w2, w2 = u3.drew.alloc (.cells #[.int .i64 i, .int .i64 v] 35) := ⟨_, rfl⟩
                    have hw2' : (u3.alloc (Obj.cells #[.int .i64 i, .int .i64 v] 35)).drew = w2 := by rw [hw2]; rfl
                    have HBB : Hid (Below u3.heap.size u3 w2) := by rw [hw2]; exact B0.drew.alloc (Nat.le_refl _) _
                    have HRW : Hid (w2.ownsRow w.heap.size 35 2 (.slice aa nR cc) nR xR) := ownsRow_below HBX.out.2.2 HBB.out.block
                    have HNW : Hid (∀ j u, [Value.int .i64 i, .int .i64 v][j]? = some u → w2.cell? ((⟨u3.heap.size, 0, none⟩ : Addr).add j) = some u) := by
                      have hn := World.news_of_block (cs := #[.int .i64 i, .int .i64 v]) (t := 35) (fr := (0, 0)) (heap_alloc_new u3.drew (.cells #[.int .i64 i, .int .i64 v] 35))
                      rw [← hw2] at hn
                      exact hn
                    have HSZ : Hid (w.heap.size ≤ w2.heap.size) := by
                      have h1 := HBB.out.size
                      show w.heap.size ≤ w2.heap.size
                      omega
                    have HCA : Hid (w2.cell? ⟨hb, j, none⟩ = some (.pointer (some ⟨b.h, 0, none⟩)) ∧ w2.cell? ⟨b.h, 2, none⟩ = some (.slice aa nR cc)) := by
                      rw [hw2]
                      exact ⟨cah _, ca _⟩
                    have HS2 : Hid (w2.heap.size = u3.heap.size + 1) := by
                      show w2.heap.size = u3.heap.size + 1
                      rw [hw2]; simp
                    have c1d : u3.drew.cell? ⟨b.h, 2, none⟩ = some (.slice aa nR cc) := c1
                    clear hw2
                    refine wp_region_any (by kernel_rfl) ?_
                    refine wpAny_take (i := 0) (v := ?_) rfl (by kernel_rfl) (by kernel_rfl) (by kernel_rfl) (fun _ _ _ h => h) (Or.inl ⟨by rfl, ?_⟩) ?_
                    rotate_left
                    · intro u
                      go_simp
                      with_reducible rfl
                    simp only [Act.put, List.setIfInBounds_toArray, List.set_cons_zero, List.set_cons_succ, List.getElem_toArray, List.getElem_cons_zero]
                    refine wpAny_take (i := 1) (v := ?_) rfl (by kernel_rfl) (by kernel_rfl) (by kernel_rfl) (fun _ _ _ h => h) (Or.inl ⟨by rfl, ?_⟩) ?_
                    rotate_left
                    · intro u
                      go_simp
                      with_reducible rfl
                    simp only [Act.put, List.setIfInBounds_toArray, List.set_cons_zero, List.set_cons_succ, List.getElem_toArray, List.getElem_cons_zero, List.getElem_cons_succ]
                    refine wpAny_take (i := 3) (v := ?_) rfl (by kernel_rfl) (by kernel_rfl) (by kernel_rfl) (fun _ _ _ h => h) (Or.inl ⟨by rfl, ?_⟩) ?_
                    rotate_left
                    · intro u
                      go_simp
                      with_reducible rfl
                    simp only [Act.put, List.setIfInBounds_toArray, List.set_cons_zero, List.set_cons_succ, List.getElem_toArray, List.getElem_cons_zero, List.getElem_cons_succ]
                    refine wpAny_take (i := 4) (v := ?_) rfl (by kernel_rfl) (by kernel_rfl) (by kernel_rfl) (fun _ _ _ h => h) (Or.inl ⟨by rfl, ?_⟩) ?_
                    rotate_left
                    · intro u
                      go_simp
                      with_reducible rfl
                    simp only [Act.put, List.setIfInBounds_toArray, List.set_cons_zero, List.set_cons_succ, List.getElem_toArray, List.getElem_cons_zero, List.getElem_cons_succ]
                    refine wpAny_take (i := 9) (v := ?_) rfl (by kernel_rfl) (by kernel_rfl) (by kernel_rfl) (fun _ _ _ h => h) (Or.inl ⟨by rfl, ?_⟩) ?_
                    rotate_left
                    · intro u
                      go_simp
                      with_reducible rfl
                    simp only [Act.put, List.setIfInBounds_toArray, List.set_cons_zero, List.set_cons_succ, List.getElem_toArray, List.getElem_cons_zero, List.getElem_cons_succ]
                    refine wpAny_take (i := 10) (v := ?_) rfl (by kernel_rfl) (by kernel_rfl) (by kernel_rfl) (fun _ _ _ h => h) (Or.inl ⟨by rfl, ?_⟩) ?_
                    rotate_left
                    · intro u
                      go_simp
                      with_reducible rfl
                    simp only [Act.put, List.setIfInBounds_toArray, List.set_cons_zero, List.set_cons_succ, List.getElem_toArray, List.getElem_cons_zero, List.getElem_cons_succ]
                    refine wpAny_take (i := 11) (v := ?_) rfl (by kernel_rfl) (by kernel_rfl) (by kernel_rfl) (fun _ _ _ h => h) (Or.inl ⟨by rfl, ?_⟩) ?_
                    rotate_left
                    · intro u
                      go_simp
                      with_reducible rfl
                    simp only [Act.put, List.setIfInBounds_toArray, List.set_cons_zero, List.set_cons_succ, List.getElem_toArray, List.getElem_cons_zero, List.getElem_cons_succ]
                    refine wpAny_of_E (C := SlotsCells [(136, .pointer (some ⟨hb, j, none⟩)), (139, .pointer (some ⟨hb, j, none⟩))] [(⟨hb, j, none⟩, .pointer (some ⟨b.h, 0, none⟩))]) (late := [16]) _ _ _ _ ?_
                    refine wpAnyE_take (i := 2) (v := .pointer (some ⟨b.h, 0, none⟩)) rfl (by kernel_rfl) (by kernel_rfl) (by kernel_rfl) (by kernel_rfl) (by kernel_rfl) (by kernel_rfl) (fun _ _ _ h => h) ?_ (fun fr u h => (SlotsCells.put 137 _ (by rfl)).1 h) (fun fr u h => (SlotsCells.put 137 _ (by rfl)).2 h) ?_ ?_
                    · intro fr u hh
                      obtain ⟨e1, e2⟩ := hh.load (s := 136) (p := ⟨hb, j, none⟩) (v := .pointer (some ⟨b.h, 0, none⟩)) (by simp) (by simp)
                      exact ⟨rfl, by simp [execOp, e1, go_sem, e2]⟩
                    · exact ⟨fun q hq => by simp at hq; rcases hq with rfl | rfl <;> rfl, fun q hq => by simp at hq; subst hq; exact HCS.out⟩
                    simp only [Act.put, List.setIfInBounds_toArray, List.set_cons_zero, List.set_cons_succ, List.getElem_toArray, List.getElem_cons_zero, List.getElem_cons_succ]
                    refine wpAnyE_take (i := 5) (v := .pointer (some ⟨b.h, 0, none⟩)) rfl (by kernel_rfl) (by kernel_rfl) (by kernel_rfl) (by kernel_rfl) (by kernel_rfl) (by kernel_rfl) (fun _ _ _ h => h) ?_ (fun fr u h => (SlotsCells.put 140 _ (by rfl)).1 h) (fun fr u h => (SlotsCells.put 140 _ (by rfl)).2 h) ?_ ?_
                    · intro fr u hh
                      obtain ⟨e1, e2⟩ := hh.load (s := 139) (p := ⟨hb, j, none⟩) (v := .pointer (some ⟨b.h, 0, none⟩)) (by simp) (by simp)
                      exact ⟨rfl, by simp [execOp, e1, go_sem, e2]⟩
                    · exact ⟨fun q hq => by simp at hq; rcases hq with rfl | rfl <;> rfl, fun q hq => by simp at hq; subst hq; exact HCS.out⟩
                    simp only [Act.put, List.setIfInBounds_toArray, List.set_cons_zero, List.set_cons_succ, List.getElem_toArray, List.getElem_cons_zero, List.getElem_cons_succ]
                    refine wpAnyE_pure (i := 6) (v := ?_) rfl (by kernel_rfl) (by kernel_rfl) (by kernel_rfl) (by kernel_rfl) (fun _ _ _ h => h) (fun fr u h => (SlotsCells.put 141 _ (by rfl)).1 h) (fun fr u h => (SlotsCells.put 141 _ (by rfl)).2 h) (.inr ⟨fun q hq => by simp at hq; rcases hq with rfl | rfl <;> rfl, fun q hq => by simp at hq; subst hq; exact HCS.out⟩) (Or.inl ⟨by rfl, ?_⟩) ?_
                    rotate_left
                    · intro u
                      go_simp
                      with_reducible rfl
                    simp only [Act.put, List.setIfInBounds_toArray, List.set_cons_zero, List.set_cons_succ, List.getElem_toArray, List.getElem_cons_zero, List.getElem_cons_succ]
                    refine wpAnyE_pure (i := 7) (v := ?_) rfl (by kernel_rfl) (by kernel_rfl) (by kernel_rfl) (by kernel_rfl) (fun _ _ _ h => h) (fun fr u h => (SlotsCells.put 142 _ (by rfl)).1 h) (fun fr u h => (SlotsCells.put 142 _ (by rfl)).2 h) (.inr ⟨fun q hq => by simp at hq; rcases hq with rfl | rfl <;> rfl, fun q hq => by simp at hq; subst hq; exact HCS.out⟩) (Or.inl ⟨by rfl, ?_⟩) ?_
                    rotate_left
                    · intro u
                      go_simp
                      with_reducible rfl
                    simp only [Act.put, List.setIfInBounds_toArray, List.set_cons_zero, List.set_cons_succ, List.getElem_toArray, List.getElem_cons_zero, List.getElem_cons_succ]
                    refine wpAnyE_some (rs := [8, 12]) (by kernel_rfl) (by simp) (fun iq hiq => ?_)
                    simp only [List.mem_cons, List.not_mem_nil, or_false] at hiq
                    rcases hiq with rfl | rfl
                    · refine wpOp_step rfl (fun Kc hKc => ?_)
                      go_simp
                      refine hKc _ _ ⟨.inr (.inr ⟨fun q hq => by simp at hq; rcases hq with rfl | rfl <;> rfl, fun q hq => by simp at hq; subst hq; exact HCS.out⟩), ?_⟩
                      clear hKc Kc
                      refine wpAnyE_some (rs := [12]) (by kernel_rfl) (by simp) (fun iq hiq => ?_)
                      simp only [List.mem_cons, List.not_mem_nil, or_false] at hiq
                      subst hiq
                      refine wpOp_step rfl (fun Kc hKc => ?_)
                      go_simp
                      refine hKc _ _ ⟨.inr (.inr ⟨fun q hq => by simp at hq; rcases hq with rfl | rfl <;> rfl, fun q hq => by simp at hq; subst hq; exact HCA.out.1⟩), ?_⟩
                      clear hKc Kc
                      refine wpAnyE_some (rs := [13]) (by kernel_rfl) (by simp) (fun iq hiq => ?_)
                      simp only [List.mem_cons, List.not_mem_nil, or_false] at hiq
                      subst hiq
                      refine wpOp_step rfl (fun Kc hKc => ?_)
                      refine step_append_lies _ rfl (.tmp 143) (.tmp 147) 29 rfl w.heap.size 35 ig (.agg #[.int .i64 0, .int .i64 0]) 2 16 Try.underlying29 hig hgz0 hgz1 hgz2 rfl (by decide) (.slice aa nR cc) nR xR rfl (HRW.out) ⟨u3.heap.size, 0, none⟩ 1 1 [.int .i64 i, .int .i64 v] rfl rfl (HNW.out) ?_ (by decide) ?_ ?_ ?_ (u3.heap.size + 1) (HS2.out) ?_
                      · intro u hu; simp at hu; rcases hu with rfl | rfl <;> rfl
                      · unfold maxLen; omega
                      · omega
                      · exact HSZ.out
                      intro gg gc u7 hown hgrow hat hlt1
                      have KK : Hid ((u7.cell? ⟨b.h, 2, none⟩ = some (.slice aa nR cc) ∧ u7.cell? ⟨hb, j, none⟩ = some (.pointer (some ⟨b.h, 0, none⟩))) ∧ u7.frozen? ⟨b.h, 2, none⟩ = false) := HK2.out _ u7 HBB.out hgrow
                      have kf := KK.out.2
                      have kk1 := KK.out.1.1
                      have HF7 : Hid (LR w (u7.setCell ⟨b.h, 2, none⟩ (.slice (some ⟨gg, 0, none⟩) (nR + 1) gc)) ⟨m, gm, mx, tb, hb, ab, l1, l2⟩ (k + 1 + 4)) := HFin.out _ u7 gg gc HBB.out hgrow hown hat
                      clear hown hgrow hat hlt1
                      refine hKc _ _ ⟨.inr (.inr ⟨fun q hq => by simp at hq; rcases hq with rfl | rfl <;> rfl, fun q hq => by simp at hq; subst hq; exact KK.out.1.2⟩), ?_⟩
                      clear hKc Kc
                      refine wpAnyE_pure (i := 14) (v := ?_) rfl (by kernel_rfl) (by kernel_rfl) (by kernel_rfl) (by kernel_rfl) (fun _ _ _ h => h) (fun fr u h => (SlotsCells.put 149 _ (by rfl)).1 h) (fun fr u h => (SlotsCells.put 149 _ (by rfl)).2 h) (.inr ⟨fun q hq => by simp at hq; rcases hq with rfl | rfl <;> rfl, fun q hq => by simp at hq; subst hq; exact KK.out.1.2⟩) (Or.inl ⟨by rfl, ?_⟩) ?_
                      rotate_left
                      · intro u
                        go_simp
                        with_reducible rfl
                      simp only [Act.put, List.setIfInBounds_toArray, List.set_cons_zero, List.set_cons_succ, List.getElem_toArray, List.getElem_cons_zero, List.getElem_cons_succ]
                      refine wpAnyE_pure (i := 15) (v := ?_) rfl (by kernel_rfl) (by kernel_rfl) (by kernel_rfl) (by kernel_rfl) (fun _ _ _ h => h) (fun fr u h => (SlotsCells.put 150 _ (by rfl)).1 h) (fun fr u h => (SlotsCells.put 150 _ (by rfl)).2 h) (.inr ⟨fun q hq => by simp at hq; rcases hq with rfl | rfl <;> rfl, fun q hq => by simp at hq; subst hq; exact KK.out.1.2⟩) (Or.inl ⟨by rfl, ?_⟩) ?_
                      rotate_left
                      · intro u
                        go_simp
                        with_reducible rfl
                      simp only [Act.put, List.setIfInBounds_toArray, List.set_cons_zero, List.set_cons_succ, List.getElem_toArray, List.getElem_cons_zero, List.getElem_cons_succ]
                      refine wpAnyE_some (rs := [16]) (by kernel_rfl) (by simp) (fun iq hiq => ?_)
                      simp only [List.mem_cons, List.not_mem_nil, or_false] at hiq
                      subst hiq
                      refine wpOp_step rfl (fun Kc hKc => ?_)
                      go_simp
                      refine hKc _ _ ⟨.inr (.inl rfl), ?_⟩
                      clear hKc Kc
                      refine wpAnyE_done (by kernel_rfl) ?_ _
                      go_wp2_with fail
                      go_roundw
                      case rel => exact ⟨k + 1, by omega, by simp, HF7.out⟩
                      case measure => simp only [civ]; omega
                    · refine wpOp_step rfl (fun Kc hKc => ?_)
                      go_simp
                      refine hKc _ _ ⟨.inr (.inr ⟨fun q hq => by simp at hq; rcases hq with rfl | rfl <;> rfl, fun q hq => by simp at hq; subst hq; exact HCA.out.1⟩), ?_⟩
                      clear hKc Kc
                      have c2d := HCA.out.2
                      refine wpAnyE_some (rs := [8]) (by kernel_rfl) (by simp) (fun iq hiq => ?_)
                      simp only [List.mem_cons, List.not_mem_nil, or_false] at hiq
                      subst hiq
                      refine wpOp_step rfl (fun Kc hKc => ?_)
                      go_simp
                      refine hKc _ _ ⟨.inr (.inr ⟨fun q hq => by simp at hq; rcases hq with rfl | rfl <;> rfl, fun q hq => by simp at hq; subst hq; exact HCA.out.1⟩), ?_⟩
                      clear hKc Kc
                      refine wpAnyE_some (rs := [13]) (by kernel_rfl) (by simp) (fun iq hiq => ?_)
                      simp only [List.mem_cons, List.not_mem_nil, or_false] at hiq
                      subst hiq
                      refine wpOp_step rfl (fun Kc hKc => ?_)
                      refine step_append_lies _ rfl (.tmp 143) (.tmp 147) 29 rfl w.heap.size 35 ig (.agg #[.int .i64 0, .int .i64 0]) 2 16 Try.underlying29 hig hgz0 hgz1 hgz2 rfl (by decide) (.slice aa nR cc) nR xR rfl (HRW.out) ⟨u3.heap.size, 0, none⟩ 1 1 [.int .i64 i, .int .i64 v] rfl rfl (HNW.out) ?_ (by decide) ?_ ?_ ?_ (u3.heap.size + 1) (HS2.out) ?_
                      · intro u hu; simp at hu; rcases hu with rfl | rfl <;> rfl
                      · unfold maxLen; omega
                      · omega
                      · exact HSZ.out
                      intro gg gc u7 hown hgrow hat hlt1
                      have KK : Hid ((u7.cell? ⟨b.h, 2, none⟩ = some (.slice aa nR cc) ∧ u7.cell? ⟨hb, j, none⟩ = some (.pointer (some ⟨b.h, 0, none⟩))) ∧ u7.frozen? ⟨b.h, 2, none⟩ = false) := HK2.out _ u7 HBB.out hgrow
                      have kf := KK.out.2
                      have kk1 := KK.out.1.1
                      have HF7 : Hid (LR w (u7.setCell ⟨b.h, 2, none⟩ (.slice (some ⟨gg, 0, none⟩) (nR + 1) gc)) ⟨m, gm, mx, tb, hb, ab, l1, l2⟩ (k + 1 + 4)) := HFin.out _ u7 gg gc HBB.out hgrow hown hat
                      clear hown hgrow hat hlt1
                      refine hKc _ _ ⟨.inr (.inr ⟨fun q hq => by simp at hq; rcases hq with rfl | rfl <;> rfl, fun q hq => by simp at hq; subst hq; exact KK.out.1.2⟩), ?_⟩
                      clear hKc Kc
                      refine wpAnyE_pure (i := 14) (v := ?_) rfl (by kernel_rfl) (by kernel_rfl) (by kernel_rfl) (by kernel_rfl) (fun _ _ _ h => h) (fun fr u h => (SlotsCells.put 149 _ (by rfl)).1 h) (fun fr u h => (SlotsCells.put 149 _ (by rfl)).2 h) (.inr ⟨fun q hq => by simp at hq; rcases hq with rfl | rfl <;> rfl, fun q hq => by simp at hq; subst hq; exact KK.out.1.2⟩) (Or.inl ⟨by rfl, ?_⟩) ?_
                      rotate_left
                      · intro u
                        go_simp
                        with_reducible rfl
                      simp only [Act.put, List.setIfInBounds_toArray, List.set_cons_zero, List.set_cons_succ, List.getElem_toArray, List.getElem_cons_zero, List.getElem_cons_succ]
                      refine wpAnyE_pure (i := 15) (v := ?_) rfl (by kernel_rfl) (by kernel_rfl) (by kernel_rfl) (by kernel_rfl) (fun _ _ _ h => h) (fun fr u h => (SlotsCells.put 150 _ (by rfl)).1 h) (fun fr u h => (SlotsCells.put 150 _ (by rfl)).2 h) (.inr ⟨fun q hq => by simp at hq; rcases hq with rfl | rfl <;> rfl, fun q hq => by simp at hq; subst hq; exact KK.out.1.2⟩) (Or.inl ⟨by rfl, ?_⟩) ?_
                      rotate_left
                      · intro u
                        go_simp
                        with_reducible rfl
                      simp only [Act.put, List.setIfInBounds_toArray, List.set_cons_zero, List.set_cons_succ, List.getElem_toArray, List.getElem_cons_zero, List.getElem_cons_succ]
                      refine wpAnyE_some (rs := [16]) (by kernel_rfl) (by simp) (fun iq hiq => ?_)
                      simp only [List.mem_cons, List.not_mem_nil, or_false] at hiq
                      subst hiq
                      refine wpOp_step rfl (fun Kc hKc => ?_)
                      go_simp
                      refine hKc _ _ ⟨.inr (.inl rfl), ?_⟩
                      clear hKc Kc
                      refine wpAnyE_done (by kernel_rfl) ?_ _
                      go_wp2_with fail
                      go_roundw
                      case rel => exact ⟨k + 1, by omega, by simp, HF7.out⟩
                      case measure => simp only [civ]; omega
                · have he1 : (e == 0) = false := by simpa using he0
                  have HJ : Hid (LR w u3 ⟨m, gm, mx, tb, hb, ab, l1, l2⟩ (k + 1 + 4)) := HNo.out u3 t3 (fun hx => he0 hx.1)
                  clear t3 crd o3 bh3
                  go_wp2_with fail
                  go_roundw
                  case rel => exact ⟨k + 1, by omega, by simp, HJ.out⟩
                  case measure => simp only [civ]; omega
            · as_aux_lemma =>
                go_wp2_with fail
                refine crd.mono ?_
                rintro r' u3 ⟨rfl, t3⟩
                obtain ⟨ch3, o3, bh3, hB3⟩ := HB3.out u3 t3
                by_cases he0 : e = 0
                · cases yo with
                  | true =>
                    have hsome : gt h.wr i ≠ none := fun hn => by have := HYW.out.2; rw [hn] at this; cases this
                    have hval : gt h.wr i = some v := HOwn.out he0 hsome
                    have HJ : Hid (LR w u3 ⟨m, gm, mx, tb, hb, ab, l1, l2⟩ (k + 1 + 4)) := HNo.out u3 t3 (fun hx => hsome hx.2)
                    have cm3 : u3.cell? ⟨b.h, 3, none⟩ = some (.map (some b.mb)) := o3.box.cell 3
                    have clk3 := mapL_getI o3.mp i (WalkArith.wf_i64 (by omega))
                    rw [hval] at clk3
                    simp only [Option.getD_some] at clk3
                    clear hsome hval t3 crd o3 bh3
                    subst he0
                    go_wp2_with fail
                    go_roundw
                    case rel => exact ⟨k + 1, by omega, by simp, HJ.out⟩
                    case measure => simp only [civ]; omega
                  | false =>
                    have hnone : gt h.wr i = none := by
                      have := HYW.out.2
                      cases hg : gt h.wr i with
                      | none => rfl
                      | some x => rw [hg] at this; cases this
                    have HY3 := HYes.out he0 hnone u3
                    obtain ⟨aa, cc, hrv⟩ := ownsRow_slice o3.row
                    have hrow := o3.row
                    rw [hrv] at hrow HY3
                    obtain ⟨nR, hnR⟩ : ∃ nR, nR = h.rd.length := ⟨_, rfl⟩
                    obtain ⟨xR, hxR⟩ : ∃ xR, xR = rcs h.rd := ⟨_, rfl⟩
                    have bx3 := o3.box
                    unfold hcs at bx3
                    rw [hrv] at bx3
                    rw [← hnR] at hrow HY3 hrdl bx3
                    rw [← hxR] at hrow HY3
                    have T3 : Hid (ToG w u2 m gm S' (l.set (cur j) (g, x')) G (fun _ => False) u3) := t3
                    have HY4 : Hid (∀ u6 u7 rv', Below u3.heap.size u3 u6 → u6.grownBy u7 (Value.slice aa nR cc).ownBlock → u7.ownsRow w.heap.size 35 2 rv' (nR + 1) (xR ++ [.int .i64 i, .int .i64 v]) → (∀ k, rv'.ownBlock = some k → (Value.slice aa nR cc).ownBlock = some k ∨ u3.heap.size ≤ k) → LR w (u7.setCell ⟨b.h, 2, none⟩ rv') ⟨m, gm, mx, tb, hb, ab, l1, l2⟩ (k + 1 + 4)) := fun u6 u7 rv' => HY3 u6 u7 rv' T3.out
                    have HBX : Hid (Box u3 b.h #[.int .i64 h.beg, .int .i64 h.ver, .slice aa nR cc, .map (some b.mb), .bool h.done] 32 ∧ Box u3 hb #[hp 0, hp 1, hp 2, hp 3] 44 ∧ u3.ownsRow w.heap.size 35 2 (.slice aa nR cc) nR xR) := ⟨bx3, bh3, hrow⟩
                    have c1 : u3.cell? ⟨b.h, 2, none⟩ = some (.slice aa nR cc) := bx3.cell 2
                    have f1 : u3.frozen? ⟨b.h, 2, none⟩ = false := bx3.frozen 2
                    have ca : ∀ o, (u3.alloc o).cell? ⟨b.h, 2, none⟩ = some (.slice aa nR cc) := fun o => (bx3.alloc o).cell 2
                    have hjv : (#[hp 0, hp 1, hp 2, hp 3] : Array Value)[j]? = some (.pointer (some ⟨b.h, 0, none⟩)) := (bh3.cell j).symm.trans ch3
                    have cah : ∀ o, (u3.alloc o).cell? ⟨hb, j, none⟩ = some (.pointer (some ⟨b.h, 0, none⟩)) := fun o => ((bh3.alloc o).cell j).trans hjv
                    have HNE : Hid (hb ≠ b.h) := bh3.ne bx3 (by decide)
                    have HK2 : Hid (∀ u6 u', Below u3.heap.size u3 u6 → u6.grownBy u' (Value.slice aa nR cc).ownBlock → (u'.cell? ⟨b.h, 2, none⟩ = some (.slice aa nR cc) ∧ u'.cell? ⟨hb, j, none⟩ = some (.pointer (some ⟨b.h, 0, none⟩))) ∧ u'.frozen? ⟨b.h, 2, none⟩ = false) := fun u6 u' hb' hg => by
                      have nb : ∀ {y : Nat} {cs : Array Value} {t : TypeId}, Box u3 y cs t → t ≠ 35 → Box u' y cs t := fun b ht => by
                        have b6 := b.below hb' b.lt
                        refine (hg.block _ b6.lt (fun e => ?_)).trans b6
                        obtain ⟨cs', hc⟩ := ownsRow_box HBX.out.2.2 _ e.symm
                        exact (b.ne hc ht) rfl
                      have b1 := nb HBX.out.1 (by decide)
                      have b2 := nb HBX.out.2.1 (by decide)
                      exact ⟨⟨b1.cell 2, (b2.cell j).trans hjv⟩, b1.frozen 2⟩
                    have HFin : Hid (∀ u6 u7 gg gc, Below u3.heap.size u3 u6 → u6.grownBy u7 (Value.slice aa nR cc).ownBlock → u7.ownsRow w.heap.size 35 2 (.slice (some ⟨gg, 0, none⟩) (nR + 1) gc) (nR + 1) (xR ++ [.int .i64 i, .int .i64 v]) → ((Value.slice aa nR cc).ownBlock = some gg ∨ gg = u3.heap.size + 1) → LR w (u7.setCell ⟨b.h, 2, none⟩ (.slice (some ⟨gg, 0, none⟩) (nR + 1) gc)) ⟨m, gm, mx, tb, hb, ab, l1, l2⟩ (k + 1 + 4)) := fun u6 u7 gg gc h6 h7 hr hat => HY4.out u6 u7 _ h6 h7 hr (fun k hk => by
                      have e : gg = k := by injection hk
                      subst e
                      rcases hat with h | h
                      · exact .inl h
                      · exact .inr (by omega))
                    have B0 : Below u3.heap.size u3 u3 := Below.refl _ _
                    clear hrow HY3 bx3 bh3 hxR hnR hrv hnone t3 crd o3 hjv T3
                    subst he0
                    go_upto_region 32 with fail
                    have HCS : Hid (u3.drew.cell? ⟨hb, j, none⟩ = some (.pointer (some ⟨b.h, 0, none⟩))) := ch3
                    obtain ⟨w2, hw2⟩ : ∃ w2, w2 = u3.drew.alloc (.cells #[.int .i64 i, .int .i64 v] 35) := ⟨_, rfl⟩
                    have hw2' : (u3.alloc (Obj.cells #[.int .i64 i, .int .i64 v] 35)).drew = w2 := by rw [hw2]; rfl
                    have HBB : Hid (Below u3.heap.size u3 w2) := by rw [hw2]; exact B0.drew.alloc (Nat.le_refl _) _
                    have HRW : Hid (w2.ownsRow w.heap.size 35 2 (.slice aa nR cc) nR xR) := ownsRow_below HBX.out.2.2 HBB.out.block
                    have HNW : Hid (∀ j u, [Value.int .i64 i, .int .i64 v][j]? = some u → w2.cell? ((⟨u3.heap.size, 0, none⟩ : Addr).add j) = some u) := by
                      have hn := World.news_of_block (cs := #[.int .i64 i, .int .i64 v]) (t := 35) (fr := (0, 0)) (heap_alloc_new u3.drew (.cells #[.int .i64 i, .int .i64 v] 35))
                      rw [← hw2] at hn
                      exact hn
                    have HSZ : Hid (w.heap.size ≤ w2.heap.size) := by
                      have h1 := HBB.out.size
                      show w.heap.size ≤ w2.heap.size
                      omega
                    have HCA : Hid (w2.cell? ⟨hb, j, none⟩ = some (.pointer (some ⟨b.h, 0, none⟩)) ∧ w2.cell? ⟨b.h, 2, none⟩ = some (.slice aa nR cc)) := by
                      rw [hw2]
                      exact ⟨cah _, ca _⟩
                    have HS2 : Hid (w2.heap.size = u3.heap.size + 1) := by
                      show w2.heap.size = u3.heap.size + 1
                      rw [hw2]; simp
                    have c1d : u3.drew.cell? ⟨b.h, 2, none⟩ = some (.slice aa nR cc) := c1
                    clear hw2
                    refine wp_region_any (by kernel_rfl) ?_
                    refine wpAny_take (i := 0) (v := ?_) rfl (by kernel_rfl) (by kernel_rfl) (by kernel_rfl) (fun _ _ _ h => h) (Or.inl ⟨by rfl, ?_⟩) ?_
                    rotate_left
                    · intro u
                      go_simp
                      with_reducible rfl
                    simp only [Act.put, List.setIfInBounds_toArray, List.set_cons_zero, List.set_cons_succ, List.getElem_toArray, List.getElem_cons_zero]
                    refine wpAny_take (i := 1) (v := ?_) rfl (by kernel_rfl) (by kernel_rfl) (by kernel_rfl) (fun _ _ _ h => h) (Or.inl ⟨by rfl, ?_⟩) ?_
                    rotate_left
                    · intro u
                      go_simp
                      with_reducible rfl
                    simp only [Act.put, List.setIfInBounds_toArray, List.set_cons_zero, List.set_cons_succ, List.getElem_toArray, List.getElem_cons_zero, List.getElem_cons_succ]
                    refine wpAny_take (i := 3) (v := ?_) rfl (by kernel_rfl) (by kernel_rfl) (by kernel_rfl) (fun _ _ _ h => h) (Or.inl ⟨by rfl, ?_⟩) ?_
                    rotate_left
                    · intro u
                      go_simp
                      with_reducible rfl
                    simp only [Act.put, List.setIfInBounds_toArray, List.set_cons_zero, List.set_cons_succ, List.getElem_toArray, List.getElem_cons_zero, List.getElem_cons_succ]
                    refine wpAny_take (i := 4) (v := ?_) rfl (by kernel_rfl) (by kernel_rfl) (by kernel_rfl) (fun _ _ _ h => h) (Or.inl ⟨by rfl, ?_⟩) ?_
                    rotate_left
                    · intro u
                      go_simp
                      with_reducible rfl
                    simp only [Act.put, List.setIfInBounds_toArray, List.set_cons_zero, List.set_cons_succ, List.getElem_toArray, List.getElem_cons_zero, List.getElem_cons_succ]
                    refine wpAny_take (i := 9) (v := ?_) rfl (by kernel_rfl) (by kernel_rfl) (by kernel_rfl) (fun _ _ _ h => h) (Or.inl ⟨by rfl, ?_⟩) ?_
                    rotate_left
                    · intro u
                      go_simp
                      with_reducible rfl
                    simp only [Act.put, List.setIfInBounds_toArray, List.set_cons_zero, List.set_cons_succ, List.getElem_toArray, List.getElem_cons_zero, List.getElem_cons_succ]
                    refine wpAny_take (i := 10) (v := ?_) rfl (by kernel_rfl) (by kernel_rfl) (by kernel_rfl) (fun _ _ _ h => h) (Or.inl ⟨by rfl, ?_⟩) ?_
                    rotate_left
                    · intro u
                      go_simp
                      with_reducible rfl
                    simp only [Act.put, List.setIfInBounds_toArray, List.set_cons_zero, List.set_cons_succ, List.getElem_toArray, List.getElem_cons_zero, List.getElem_cons_succ]
                    refine wpAny_take (i := 11) (v := ?_) rfl (by kernel_rfl) (by kernel_rfl) (by kernel_rfl) (fun _ _ _ h => h) (Or.inl ⟨by rfl, ?_⟩) ?_
                    rotate_left
                    · intro u
                      go_simp
                      with_reducible rfl
                    simp only [Act.put, List.setIfInBounds_toArray, List.set_cons_zero, List.set_cons_succ, List.getElem_toArray, List.getElem_cons_zero, List.getElem_cons_succ]
                    refine wpAny_of_E (C := SlotsCells [(136, .pointer (some ⟨hb, j, none⟩)), (139, .pointer (some ⟨hb, j, none⟩))] [(⟨hb, j, none⟩, .pointer (some ⟨b.h, 0, none⟩))]) (late := [16]) _ _ _ _ ?_
                    refine wpAnyE_take (i := 2) (v := .pointer (some ⟨b.h, 0, none⟩)) rfl (by kernel_rfl) (by kernel_rfl) (by kernel_rfl) (by kernel_rfl) (by kernel_rfl) (by kernel_rfl) (fun _ _ _ h => h) ?_ (fun fr u h => (SlotsCells.put 137 _ (by rfl)).1 h) (fun fr u h => (SlotsCells.put 137 _ (by rfl)).2 h) ?_ ?_
                    · intro fr u hh
                      obtain ⟨e1, e2⟩ := hh.load (s := 136) (p := ⟨hb, j, none⟩) (v := .pointer (some ⟨b.h, 0, none⟩)) (by simp) (by simp)
                      exact ⟨rfl, by simp [execOp, e1, go_sem, e2]⟩
                    · exact ⟨fun q hq => by simp at hq; rcases hq with rfl | rfl <;> rfl, fun q hq => by simp at hq; subst hq; exact HCS.out⟩
                    simp only [Act.put, List.setIfInBounds_toArray, List.set_cons_zero, List.set_cons_succ, List.getElem_toArray, List.getElem_cons_zero, List.getElem_cons_succ]
                    refine wpAnyE_take (i := 5) (v := .pointer (some ⟨b.h, 0, none⟩)) rfl (by kernel_rfl) (by kernel_rfl) (by kernel_rfl) (by kernel_rfl) (by kernel_rfl) (by kernel_rfl) (fun _ _ _ h => h) ?_ (fun fr u h => (SlotsCells.put 140 _ (by rfl)).1 h) (fun fr u h => (SlotsCells.put 140 _ (by rfl)).2 h) ?_ ?_
                    · intro fr u hh
                      obtain ⟨e1, e2⟩ := hh.load (s := 139) (p := ⟨hb, j, none⟩) (v := .pointer (some ⟨b.h, 0, none⟩)) (by simp) (by simp)
                      exact ⟨rfl, by simp [execOp, e1, go_sem, e2]⟩
                    · exact ⟨fun q hq => by simp at hq; rcases hq with rfl | rfl <;> rfl, fun q hq => by simp at hq; subst hq; exact HCS.out⟩
                    simp only [Act.put, List.setIfInBounds_toArray, List.set_cons_zero, List.set_cons_succ, List.getElem_toArray, List.getElem_cons_zero, List.getElem_cons_succ]
                    refine wpAnyE_pure (i := 6) (v := ?_) rfl (by kernel_rfl) (by kernel_rfl) (by kernel_rfl) (by kernel_rfl) (fun _ _ _ h => h) (fun fr u h => (SlotsCells.put 141 _ (by rfl)).1 h) (fun fr u h => (SlotsCells.put 141 _ (by rfl)).2 h) (.inr ⟨fun q hq => by simp at hq; rcases hq with rfl | rfl <;> rfl, fun q hq => by simp at hq; subst hq; exact HCS.out⟩) (Or.inl ⟨by rfl, ?_⟩) ?_
                    rotate_left
                    · intro u
                      go_simp
                      with_reducible rfl
                    simp only [Act.put, List.setIfInBounds_toArray, List.set_cons_zero, List.set_cons_succ, List.getElem_toArray, List.getElem_cons_zero, List.getElem_cons_succ]
                    refine wpAnyE_pure (i := 7) (v := ?_) rfl (by kernel_rfl) (by kernel_rfl) (by kernel_rfl) (by kernel_rfl) (fun _ _ _ h => h) (fun fr u h => (SlotsCells.put 142 _ (by rfl)).1 h) (fun fr u h => (SlotsCells.put 142 _ (by rfl)).2 h) (.inr ⟨fun q hq => by simp at hq; rcases hq with rfl | rfl <;> rfl, fun q hq => by simp at hq; subst hq; exact HCS.out⟩) (Or.inl ⟨by rfl, ?_⟩) ?_
                    rotate_left
                    · intro u
                      go_simp
                      with_reducible rfl
                    simp only [Act.put, List.setIfInBounds_toArray, List.set_cons_zero, List.set_cons_succ, List.getElem_toArray, List.getElem_cons_zero, List.getElem_cons_succ]
                    refine wpAnyE_some (rs := [8, 12]) (by kernel_rfl) (by simp) (fun iq hiq => ?_)
                    simp only [List.mem_cons, List.not_mem_nil, or_false] at hiq
                    rcases hiq with rfl | rfl
                    · refine wpOp_step rfl (fun Kc hKc => ?_)
                      go_simp
                      refine hKc _ _ ⟨.inr (.inr ⟨fun q hq => by simp at hq; rcases hq with rfl | rfl <;> rfl, fun q hq => by simp at hq; subst hq; exact HCS.out⟩), ?_⟩
                      clear hKc Kc
                      refine wpAnyE_some (rs := [12]) (by kernel_rfl) (by simp) (fun iq hiq => ?_)
                      simp only [List.mem_cons, List.not_mem_nil, or_false] at hiq
                      subst hiq
                      refine wpOp_step rfl (fun Kc hKc => ?_)
                      go_simp
                      refine hKc _ _ ⟨.inr (.inr ⟨fun q hq => by simp at hq; rcases hq with rfl | rfl <;> rfl, fun q hq => by simp at hq; subst hq; exact HCA.out.1⟩), ?_⟩
                      clear hKc Kc
                      refine wpAnyE_some (rs := [13]) (by kernel_rfl) (by simp) (fun iq hiq => ?_)
                      simp only [List.mem_cons, List.not_mem_nil, or_false] at hiq
                      subst hiq
                      refine wpOp_step rfl (fun Kc hKc => ?_)
                      refine step_append_lies _ rfl (.tmp 143) (.tmp 147) 29 rfl w.heap.size 35 ig (.agg #[.int .i64 0, .int .i64 0]) 2 16 Try.underlying29 hig hgz0 hgz1 hgz2 rfl (by decide) (.slice aa nR cc) nR xR rfl (HRW.out) ⟨u3.heap.size, 0, none⟩ 1 1 [.int .i64 i, .int .i64 v] rfl rfl (HNW.out) ?_ (by decide) ?_ ?_ ?_ (u3.heap.size + 1) (HS2.out) ?_
                      · intro u hu; simp at hu; rcases hu with rfl | rfl <;> rfl
                      · unfold maxLen; omega
                      · omega
                      · exact HSZ.out
                      intro gg gc u7 hown hgrow hat hlt1
                      have KK : Hid ((u7.cell? ⟨b.h, 2, none⟩ = some (.slice aa nR cc) ∧ u7.cell? ⟨hb, j, none⟩ = some (.pointer (some ⟨b.h, 0, none⟩))) ∧ u7.frozen? ⟨b.h, 2, none⟩ = false) := HK2.out _ u7 HBB.out hgrow
                      have kf := KK.out.2
                      have kk1 := KK.out.1.1
                      have HF7 : Hid (LR w (u7.setCell ⟨b.h, 2, none⟩ (.slice (some ⟨gg, 0, none⟩) (nR + 1) gc)) ⟨m, gm, mx, tb, hb, ab, l1, l2⟩ (k + 1 + 4)) := HFin.out _ u7 gg gc HBB.out hgrow hown hat
                      clear hown hgrow hat hlt1
                      refine hKc _ _ ⟨.inr (.inr ⟨fun q hq => by simp at hq; rcases hq with rfl | rfl <;> rfl, fun q hq => by simp at hq; subst hq; exact KK.out.1.2⟩), ?_⟩
                      clear hKc Kc
                      refine wpAnyE_pure (i := 14) (v := ?_) rfl (by kernel_rfl) (by kernel_rfl) (by kernel_rfl) (by kernel_rfl) (fun _ _ _ h => h) (fun fr u h => (SlotsCells.put 149 _ (by rfl)).1 h) (fun fr u h => (SlotsCells.put 149 _ (by rfl)).2 h) (.inr ⟨fun q hq => by simp at hq; rcases hq with rfl | rfl <;> rfl, fun q hq => by simp at hq; subst hq; exact KK.out.1.2⟩) (Or.inl ⟨by rfl, ?_⟩) ?_
                      rotate_left
                      · intro u
                        go_simp
                        with_reducible rfl
                      simp only [Act.put, List.setIfInBounds_toArray, List.set_cons_zero, List.set_cons_succ, List.getElem_toArray, List.getElem_cons_zero, List.getElem_cons_succ]
                      refine wpAnyE_pure (i := 15) (v := ?_) rfl (by kernel_rfl) (by kernel_rfl) (by kernel_rfl) (by kernel_rfl) (fun _ _ _ h => h) (fun fr u h => (SlotsCells.put 150 _ (by rfl)).1 h) (fun fr u h => (SlotsCells.put 150 _ (by rfl)).2 h) (.inr ⟨fun q hq => by simp at hq; rcases hq with rfl | rfl <;> rfl, fun q hq => by simp at hq; subst hq; exact KK.out.1.2⟩) (Or.inl ⟨by rfl, ?_⟩) ?_
                      rotate_left
                      · intro u
                        go_simp
                        with_reducible rfl
                      simp only [Act.put, List.setIfInBounds_toArray, List.set_cons_zero, List.set_cons_succ, List.getElem_toArray, List.getElem_cons_zero, List.getElem_cons_succ]
                      refine wpAnyE_some (rs := [16]) (by kernel_rfl) (by simp) (fun iq hiq => ?_)
                      simp only [List.mem_cons, List.not_mem_nil, or_false] at hiq
                      subst hiq
                      refine wpOp_step rfl (fun Kc hKc => ?_)
                      go_simp
                      refine hKc _ _ ⟨.inr (.inl rfl), ?_⟩
                      clear hKc Kc
                      refine wpAnyE_done (by kernel_rfl) ?_ _
                      go_wp2_with fail
                      go_roundw
                      case rel => exact ⟨k + 1, by omega, by simp, HF7.out⟩
                      case measure => simp only [civ]; omega
                    · refine wpOp_step rfl (fun Kc hKc => ?_)
                      go_simp
                      refine hKc _ _ ⟨.inr (.inr ⟨fun q hq => by simp at hq; rcases hq with rfl | rfl <;> rfl, fun q hq => by simp at hq; subst hq; exact HCA.out.1⟩), ?_⟩
                      clear hKc Kc
                      have c2d := HCA.out.2
                      refine wpAnyE_some (rs := [8]) (by kernel_rfl) (by simp) (fun iq hiq => ?_)
                      simp only [List.mem_cons, List.not_mem_nil, or_false] at hiq
                      subst hiq
                      refine wpOp_step rfl (fun Kc hKc => ?_)
                      go_simp
                      refine hKc _ _ ⟨.inr (.inr ⟨fun q hq => by simp at hq; rcases hq with rfl | rfl <;> rfl, fun q hq => by simp at hq; subst hq; exact HCA.out.1⟩), ?_⟩
                      clear hKc Kc
                      refine wpAnyE_some (rs := [13]) (by kernel_rfl) (by simp) (fun iq hiq => ?_)
                      simp only [List.mem_cons, List.not_mem_nil, or_false] at hiq
                      subst hiq
                      refine wpOp_step rfl (fun Kc hKc => ?_)
                      refine step_append_lies _ rfl (.tmp 143) (.tmp 147) 29 rfl w.heap.size 35 ig (.agg #[.int .i64 0, .int .i64 0]) 2 16 Try.underlying29 hig hgz0 hgz1 hgz2 rfl (by decide) (.slice aa nR cc) nR xR rfl (HRW.out) ⟨u3.heap.size, 0, none⟩ 1 1 [.int .i64 i, .int .i64 v] rfl rfl (HNW.out) ?_ (by decide) ?_ ?_ ?_ (u3.heap.size + 1) (HS2.out) ?_
                      · intro u hu; simp at hu; rcases hu with rfl | rfl <;> rfl
                      · unfold maxLen; omega
                      · omega
                      · exact HSZ.out
                      intro gg gc u7 hown hgrow hat hlt1
                      have KK : Hid ((u7.cell? ⟨b.h, 2, none⟩ = some (.slice aa nR cc) ∧ u7.cell? ⟨hb, j, none⟩ = some (.pointer (some ⟨b.h, 0, none⟩))) ∧ u7.frozen? ⟨b.h, 2, none⟩ = false) := HK2.out _ u7 HBB.out hgrow
                      have kf := KK.out.2
                      have kk1 := KK.out.1.1
                      have HF7 : Hid (LR w (u7.setCell ⟨b.h, 2, none⟩ (.slice (some ⟨gg, 0, none⟩) (nR + 1) gc)) ⟨m, gm, mx, tb, hb, ab, l1, l2⟩ (k + 1 + 4)) := HFin.out _ u7 gg gc HBB.out hgrow hown hat
                      clear hown hgrow hat hlt1
                      refine hKc _ _ ⟨.inr (.inr ⟨fun q hq => by simp at hq; rcases hq with rfl | rfl <;> rfl, fun q hq => by simp at hq; subst hq; exact KK.out.1.2⟩), ?_⟩
                      clear hKc Kc
                      refine wpAnyE_pure (i := 14) (v := ?_) rfl (by kernel_rfl) (by kernel_rfl) (by kernel_rfl) (by kernel_rfl) (fun _ _ _ h => h) (fun fr u h => (SlotsCells.put 149 _ (by rfl)).1 h) (fun fr u h => (SlotsCells.put 149 _ (by rfl)).2 h) (.inr ⟨fun q hq => by simp at hq; rcases hq with rfl | rfl <;> rfl, fun q hq => by simp at hq; subst hq; exact KK.out.1.2⟩) (Or.inl ⟨by rfl, ?_⟩) ?_
                      rotate_left
                      · intro u
                        go_simp
                        with_reducible rfl
                      simp only [Act.put, List.setIfInBounds_toArray, List.set_cons_zero, List.set_cons_succ, List.getElem_toArray, List.getElem_cons_zero, List.getElem_cons_succ]
                      refine wpAnyE_pure (i := 15) (v := ?_) rfl (by kernel_rfl) (by kernel_rfl) (by kernel_rfl) (by kernel_rfl) (fun _ _ _ h => h) (fun fr u h => (SlotsCells.put 150 _ (by rfl)).1 h) (fun fr u h => (SlotsCells.put 150 _ (by rfl)).2 h) (.inr ⟨fun q hq => by simp at hq; rcases hq with rfl | rfl <;> rfl, fun q hq => by simp at hq; subst hq; exact KK.out.1.2⟩) (Or.inl ⟨by rfl, ?_⟩) ?_
                      rotate_left
                      · intro u
                        go_simp
                        with_reducible rfl
                      simp only [Act.put, List.setIfInBounds_toArray, List.set_cons_zero, List.set_cons_succ, List.getElem_toArray, List.getElem_cons_zero, List.getElem_cons_succ]
                      refine wpAnyE_some (rs := [16]) (by kernel_rfl) (by simp) (fun iq hiq => ?_)
                      simp only [List.mem_cons, List.not_mem_nil, or_false] at hiq
                      subst hiq
                      refine wpOp_step rfl (fun Kc hKc => ?_)
                      go_simp
                      refine hKc _ _ ⟨.inr (.inl rfl), ?_⟩
                      clear hKc Kc
                      refine wpAnyE_done (by kernel_rfl) ?_ _
                      go_wp2_with fail
                      go_roundw
                      case rel => exact ⟨k + 1, by omega, by simp, HF7.out⟩
                      case measure => simp only [civ]; omega
                · have he1 : (e == 0) = false := by simpa using he0
                  have HJ : Hid (LR w u3 ⟨m, gm, mx, tb, hb, ab, l1, l2⟩ (k + 1 + 4)) := HNo.out u3 t3 (fun hx => he0 hx.1)
                  clear t3 crd o3 bh3
                  go_wp2_with fail
                  go_roundw
                  case rel => exact ⟨k + 1, by omega, by simp, HJ.out⟩
                  case measure => simp only [civ]; omega
            · as_aux_lemma =>
                go_wp2_with fail
                refine crd.mono ?_
                rintro r' u3 ⟨rfl, t3⟩
                obtain ⟨ch3, o3, bh3, hB3⟩ := HB3.out u3 t3
                by_cases he0 : e = 0
                · cases yo with
                  | true =>
                    have hsome : gt h.wr i ≠ none := fun hn => by have := HYW.out.2; rw [hn] at this; cases this
                    have hval : gt h.wr i = some v := HOwn.out he0 hsome
                    have HJ : Hid (LR w u3 ⟨m, gm, mx, tb, hb, ab, l1, l2⟩ (k + 1 + 4)) := HNo.out u3 t3 (fun hx => hsome hx.2)
                    have cm3 : u3.cell? ⟨b.h, 3, none⟩ = some (.map (some b.mb)) := o3.box.cell 3
                    have clk3 := mapL_getI o3.mp i (WalkArith.wf_i64 (by omega))
                    rw [hval] at clk3
                    simp only [Option.getD_some] at clk3
                    clear hsome hval t3 crd o3 bh3
                    subst he0
                    go_wp2_with fail
                    go_roundw
                    case rel => exact ⟨k + 1, by omega, by simp, HJ.out⟩
                    case measure => simp only [civ]; omega
                  | false =>
                    have hnone : gt h.wr i = none := by
                      have := HYW.out.2
                      cases hg : gt h.wr i with
                      | none => rfl
                      | some x => rw [hg] at this; cases this
                    have HY3 := HYes.out he0 hnone u3
                    obtain ⟨aa, cc, hrv⟩ := ownsRow_slice o3.row
                    have hrow := o3.row
                    rw [hrv] at hrow HY3
                    obtain ⟨nR, hnR⟩ : ∃ nR, nR = h.rd.length := ⟨_, rfl⟩
                    obtain ⟨xR, hxR⟩ : ∃ xR, xR = rcs h.rd := ⟨_, rfl⟩
                    have bx3 := o3.box
                    unfold hcs at bx3
                    rw [hrv] at bx3
                    rw [← hnR] at hrow HY3 hrdl bx3
                    rw [← hxR] at hrow HY3
                    have T3 : Hid (ToG w u2 m gm S' (l.set (cur j) (g, x')) G (fun _ => False) u3) := t3
                    have HY4 : Hid (∀ u6 u7 rv', Below u3.heap.size u3 u6 → u6.grownBy u7 (Value.slice aa nR cc).ownBlock → u7.ownsRow w.heap.size 35 2 rv' (nR + 1) (xR ++ [.int .i64 i, .int .i64 v]) → (∀ k, rv'.ownBlock = some k → (Value.slice aa nR cc).ownBlock = some k ∨ u3.heap.size ≤ k) → LR w (u7.setCell ⟨b.h, 2, none⟩ rv') ⟨m, gm, mx, tb, hb, ab, l1, l2⟩ (k + 1 + 4)) := fun u6 u7 rv' => HY3 u6 u7 rv' T3.out
                    have HBX : Hid (Box u3 b.h #[.int .i64 h.beg, .int .i64 h.ver, .slice aa nR cc, .map (some b.mb), .bool h.done] 32 ∧ Box u3 hb #[hp 0, hp 1, hp 2, hp 3] 44 ∧ u3.ownsRow w.heap.size 35 2 (.slice aa nR cc) nR xR) := ⟨bx3, bh3, hrow⟩
                    have c1 : u3.cell? ⟨b.h, 2, none⟩ = some (.slice aa nR cc) := bx3.cell 2
                    have f1 : u3.frozen? ⟨b.h, 2, none⟩ = false := bx3.frozen 2
                    have ca : ∀ o, (u3.alloc o).cell? ⟨b.h, 2, none⟩ = some (.slice aa nR cc) := fun o => (bx3.alloc o).cell 2
                    have hjv : (#[hp 0, hp 1, hp 2, hp 3] : Array Value)[j]? = some (.pointer (some ⟨b.h, 0, none⟩)) := (bh3.cell j).symm.trans ch3
                    have cah : ∀ o, (u3.alloc o).cell? ⟨hb, j, none⟩ = some (.pointer (some ⟨b.h, 0, none⟩)) := fun o => ((bh3.alloc o).cell j).trans hjv
                    have HNE : Hid (hb ≠ b.h) := bh3.ne bx3 (by decide)
                    have HK2 : Hid (∀ u6 u', Below u3.heap.size u3 u6 → u6.grownBy u' (Value.slice aa nR cc).ownBlock → (u'.cell? ⟨b.h, 2, none⟩ = some (.slice aa nR cc) ∧ u'.cell? ⟨hb, j, none⟩ = some (.pointer (some ⟨b.h, 0, none⟩))) ∧ u'.frozen? ⟨b.h, 2, none⟩ = false) := fun u6 u' hb' hg => by
                      have nb : ∀ {y : Nat} {cs : Array Value} {t : TypeId}, Box u3 y cs t → t ≠ 35 → Box u' y cs t := fun b ht => by
                        have b6 := b.below hb' b.lt
                        refine (hg.block _ b6.lt (fun e => ?_)).trans b6
                        obtain ⟨cs', hc⟩ := ownsRow_box HBX.out.2.2 _ e.symm
                        exact (b.ne hc ht) rfl
                      have b1 := nb HBX.out.1 (by decide)
                      have b2 := nb HBX.out.2.1 (by decide)
                      exact ⟨⟨b1.cell 2, (b2.cell j).trans hjv⟩, b1.frozen 2⟩
                    have HFin : Hid (∀ u6 u7 gg gc, Below u3.heap.size u3 u6 → u6.grownBy u7 (Value.slice aa nR cc).ownBlock → u7.ownsRow w.heap.size 35 2 (.slice (some ⟨gg, 0, none⟩) (nR + 1) gc) (nR + 1) (xR ++ [.int .i64 i, .int .i64 v]) → ((Value.slice aa nR cc).ownBlock = some gg ∨ gg = u3.heap.size + 1) → LR w (u7.setCell ⟨b.h, 2, none⟩ (.slice (some ⟨gg, 0, none⟩) (nR + 1) gc)) ⟨m, gm, mx, tb, hb, ab, l1, l2⟩ (k + 1 + 4)) := fun u6 u7 gg gc h6 h7 hr hat => HY4.out u6 u7 _ h6 h7 hr (fun k hk => by
                      have e : gg = k := by injection hk
                      subst e
                      rcases hat with h | h
                      · exact .inl h
                      · exact .inr (by omega))
                    have B0 : Below u3.heap.size u3 u3 := Below.refl _ _
                    clear hrow HY3 bx3 bh3 hxR hnR hrv hnone t3 crd o3 hjv T3
                    subst he0
                    go_upto_region 32 with fail
                    have HCS : Hid (u3.drew.cell? ⟨hb, j, none⟩ = some (.pointer (some ⟨b.h, 0, none⟩))) := ch3
                    obtain ⟨w2, hw2⟩ : ∃ w2, w2 = u3.drew.alloc (.cells #[.int .i64 i, .int .i64 v] 35) := ⟨_, rfl⟩
                    have hw2' : (u3.alloc (Obj.cells #[.int .i64 i, .int .i64 v] 35)).drew = w2 := by rw [hw2]; rfl
                    have HBB : Hid (Below u3.heap.size u3 w2) := by rw [hw2]; exact B0.drew.alloc (Nat.le_refl _) _
                    have HRW : Hid (w2.ownsRow w.heap.size 35 2 (.slice aa nR cc) nR xR) := ownsRow_below HBX.out.2.2 HBB.out.block
                    have HNW : Hid (∀ j u, [Value.int .i64 i, .int .i64 v][j]? = some u → w2.cell? ((⟨u3.heap.size, 0, none⟩ : Addr).add j) = some u) := by
                      have hn := World.news_of_block (cs := #[.int .i64 i, .int .i64 v]) (t := 35) (fr := (0, 0)) (heap_alloc_new u3.drew (.cells #[.int .i64 i, .int .i64 v] 35))
                      rw [← hw2] at hn
                      exact hn
                    have HSZ : Hid (w.heap.size ≤ w2.heap.size) := by
                      have h1 := HBB.out.size
                      show w.heap.size ≤ w2.heap.size
                      omega
                    have HCA : Hid (w2.cell? ⟨hb, j, none⟩ = some (.pointer (some ⟨b.h, 0, none⟩)) ∧ w2.cell? ⟨b.h, 2, none⟩ = some (.slice aa nR cc)) := by
                      rw [hw2]
                      exact ⟨cah _, ca _⟩
                    have HS2 : Hid (w2.heap.size = u3.heap.size + 1) := by
                      show w2.heap.size = u3.heap.size + 1
                      rw [hw2]; simp
                    have c1d : u3.drew.cell? ⟨b.h, 2, none⟩ = some (.slice aa nR cc) := c1
                    clear hw2
                    refine wp_region_any (by kernel_rfl) ?_
                    refine wpAny_take (i := 0) (v := ?_) rfl (by kernel_rfl) (by kernel_rfl) (by kernel_rfl) (fun _ _ _ h => h) (Or.inl ⟨by rfl, ?_⟩) ?_
                    rotate_left
                    · intro u
                      go_simp
                      with_reducible rfl
                    simp only [Act.put, List.setIfInBounds_toArray, List.set_cons_zero, List.set_cons_succ, List.getElem_toArray, List.getElem_cons_zero]
                    refine wpAny_take (i := 1) (v := ?_) rfl (by kernel_rfl) (by kernel_rfl) (by kernel_rfl) (fun _ _ _ h => h) (Or.inl ⟨by rfl, ?_⟩) ?_
                    rotate_left
                    · intro u
                      go_simp
                      with_reducible rfl
                    simp only [Act.put, List.setIfInBounds_toArray, List.set_cons_zero, List.set_cons_succ, List.getElem_toArray, List.getElem_cons_zero, List.getElem_cons_succ]
                    refine wpAny_take (i := 3) (v := ?_) rfl (by kernel_rfl) (by kernel_rfl) (by kernel_rfl) (fun _ _ _ h => h) (Or.inl ⟨by rfl, ?_⟩) ?_
                    rotate_left
                    · intro u
                      go_simp
                      with_reducible rfl
                    simp only [Act.put, List.setIfInBounds_toArray, List.set_cons_zero, List.set_cons_succ, List.getElem_toArray, List.getElem_cons_zero, List.getElem_cons_succ]
                    refine wpAny_take (i := 4) (v := ?_) rfl (by kernel_rfl) (by kernel_rfl) (by kernel_rfl) (fun _ _ _ h => h) (Or.inl ⟨by rfl, ?_⟩) ?_
                    rotate_left
                    · intro u
                      go_simp
                      with_reducible rfl
                    simp only [Act.put, List.setIfInBounds_toArray, List.set_cons_zero, List.set_cons_succ, List.getElem_toArray, List.getElem_cons_zero, List.getElem_cons_succ]
                    refine wpAny_take (i := 9) (v := ?_) rfl (by kernel_rfl) (by kernel_rfl) (by kernel_rfl) (fun _ _ _ h => h) (Or.inl ⟨by rfl, ?_⟩) ?_
                    rotate_left
                    · intro u
                      go_simp
                      with_reducible rfl
                    simp only [Act.put, List.setIfInBounds_toArray, List.set_cons_zero, List.set_cons_succ, List.getElem_toArray, List.getElem_cons_zero, List.getElem_cons_succ]
                    refine wpAny_take (i := 10) (v := ?_) rfl (by kernel_rfl) (by kernel_rfl) (by kernel_rfl) (fun _ _ _ h => h) (Or.inl ⟨by rfl, ?_⟩) ?_
                    rotate_left
                    · intro u
                      go_simp
                      with_reducible rfl
                    simp only [Act.put, List.setIfInBounds_toArray, List.set_cons_zero, List.set_cons_succ, List.getElem_toArray, List.getElem_cons_zero, List.getElem_cons_succ]
                    refine wpAny_take (i := 11) (v := ?_) rfl (by kernel_rfl) (by kernel_rfl) (by kernel_rfl) (fun _ _ _ h => h) (Or.inl ⟨by rfl, ?_⟩) ?_
                    rotate_left
                    · intro u
                      go_simp
                      with_reducible rfl
                    simp only [Act.put, List.setIfInBounds_toArray, List.set_cons_zero, List.set_cons_succ, List.getElem_toArray, List.getElem_cons_zero, List.getElem_cons_succ]
                    refine wpAny_of_E (C := SlotsCells [(136, .pointer (some ⟨hb, j, none⟩)), (139, .pointer (some ⟨hb, j, none⟩))] [(⟨hb, j, none⟩, .pointer (some ⟨b.h, 0, none⟩))]) (late := [16]) _ _ _ _ ?_
                    refine wpAnyE_take (i := 2) (v := .pointer (some ⟨b.h, 0, none⟩)) rfl (by kernel_rfl) (by kernel_rfl) (by kernel_rfl) (by kernel_rfl) (by kernel_rfl) (by kernel_rfl) (fun _ _ _ h => h) ?_ (fun fr u h => (SlotsCells.put 137 _ (by rfl)).1 h) (fun fr u h => (SlotsCells.put 137 _ (by rfl)).2 h) ?_ ?_
                    · intro fr u hh
                      obtain ⟨e1, e2⟩ := hh.load (s := 136) (p := ⟨hb, j, none⟩) (v := .pointer (some ⟨b.h, 0, none⟩)) (by simp) (by simp)
                      exact ⟨rfl, by simp [execOp, e1, go_sem, e2]⟩
                    · exact ⟨fun q hq => by simp at hq; rcases hq with rfl | rfl <;> rfl, fun q hq => by simp at hq; subst hq; exact HCS.out⟩
                    simp only [Act.put, List.setIfInBounds_toArray, List.set_cons_zero, List.set_cons_succ, List.getElem_toArray, List.getElem_cons_zero, List.getElem_cons_succ]
                    refine wpAnyE_take (i := 5) (v := .pointer (some ⟨b.h, 0, none⟩)) rfl (by kernel_rfl) (by kernel_rfl) (by kernel_rfl) (by kernel_rfl) (by kernel_rfl) (by kernel_rfl) (fun _ _ _ h => h) ?_ (fun fr u h => (SlotsCells.put 140 _ (by rfl)).1 h) (fun fr u h => (SlotsCells.put 140 _ (by rfl)).2 h) ?_ ?_
                    · intro fr u hh
                      obtain ⟨e1, e2⟩ := hh.load (s := 139) (p := ⟨hb, j, none⟩) (v := .pointer (some ⟨b.h, 0, none⟩)) (by simp) (by simp)
                      exact ⟨rfl, by simp [execOp, e1, go_sem, e2]⟩
                    · exact ⟨fun q hq => by simp at hq; rcases hq with rfl | rfl <;> rfl, fun q hq => by simp at hq; subst hq; exact HCS.out⟩
                    simp only [Act.put, List.setIfInBounds_toArray, List.set_cons_zero, List.set_cons_succ, List.getElem_toArray, List.getElem_cons_zero, List.getElem_cons_succ]
                    refine wpAnyE_pure (i := 6) (v := ?_) rfl (by kernel_rfl) (by kernel_rfl) (by kernel_rfl) (by kernel_rfl) (fun _ _ _ h => h) (fun fr u h => (SlotsCells.put 141 _ (by rfl)).1 h) (fun fr u h => (SlotsCells.put 141 _ (by rfl)).2 h) (.inr ⟨fun q hq => by simp at hq; rcases hq with rfl | rfl <;> rfl, fun q hq => by simp at hq; subst hq; exact HCS.out⟩) (Or.inl ⟨by rfl, ?_⟩) ?_
                    rotate_left
                    · intro u
                      go_simp
                      with_reducible rfl
                    simp only [Act.put, List.setIfInBounds_toArray, List.set_cons_zero, List.set_cons_succ, List.getElem_toArray, List.getElem_cons_zero, List.getElem_cons_succ]
                    refine wpAnyE_pure (i := 7) (v := ?_) rfl (by kernel_rfl) (by kernel_rfl) (by kernel_rfl) (by kernel_rfl) (fun _ _ _ h => h) (fun fr u h => (SlotsCells.put 142 _ (by rfl)).1 h) (fun fr u h => (SlotsCells.put 142 _ (by rfl)).2 h) (.inr ⟨fun q hq => by simp at hq; rcases hq with rfl | rfl <;> rfl, fun q hq => by simp at hq; subst hq; exact HCS.out⟩) (Or.inl ⟨by rfl, ?_⟩) ?_
                    rotate_left
                    · intro u
                      go_simp
                      with_reducible rfl
                    simp only [Act.put, List.setIfInBounds_toArray, List.set_cons_zero, List.set_cons_succ, List.getElem_toArray, List.getElem_cons_zero, List.getElem_cons_succ]
                    refine wpAnyE_some (rs := [8, 12]) (by kernel_rfl) (by simp) (fun iq hiq => ?_)
                    simp only [List.mem_cons, List.not_mem_nil, or_false] at hiq
                    rcases hiq with rfl | rfl
                    · refine wpOp_step rfl (fun Kc hKc => ?_)
                      go_simp
                      refine hKc _ _ ⟨.inr (.inr ⟨fun q hq => by simp at hq; rcases hq with rfl | rfl <;> rfl, fun q hq => by simp at hq; subst hq; exact HCS.out⟩), ?_⟩
                      clear hKc Kc
                      refine wpAnyE_some (rs := [12]) (by kernel_rfl) (by simp) (fun iq hiq => ?_)
                      simp only [List.mem_cons, List.not_mem_nil, or_false] at hiq
                      subst hiq
                      refine wpOp_step rfl (fun Kc hKc => ?_)
                      go_simp
                      refine hKc _ _ ⟨.inr (.inr ⟨fun q hq => by simp at hq; rcases hq with rfl | rfl <;> rfl, fun q hq => by simp at hq; subst hq; exact HCA.out.1⟩), ?_⟩
                      clear hKc Kc
                      refine wpAnyE_some (rs := [13]) (by kernel_rfl) (by simp) (fun iq hiq => ?_)
                      simp only [List.mem_cons, List.not_mem_nil, or_false] at hiq
                      subst hiq
                      refine wpOp_step rfl (fun Kc hKc => ?_)
                      refine step_append_lies _ rfl (.tmp 143) (.tmp 147) 29 rfl w.heap.size 35 ig (.agg #[.int .i64 0, .int .i64 0]) 2 16 Try.underlying29 hig hgz0 hgz1 hgz2 rfl (by decide) (.slice aa nR cc) nR xR rfl (HRW.out) ⟨u3.heap.size, 0, none⟩ 1 1 [.int .i64 i, .int .i64 v] rfl rfl (HNW.out) ?_ (by decide) ?_ ?_ ?_ (u3.heap.size + 1) (HS2.out) ?_
                      · intro u hu; simp at hu; rcases hu with rfl | rfl <;> rfl
                      · unfold maxLen; omega
                      · omega
                      · exact HSZ.out
                      intro gg gc u7 hown hgrow hat hlt1
                      have KK : Hid ((u7.cell? ⟨b.h, 2, none⟩ = some (.slice aa nR cc) ∧ u7.cell? ⟨hb, j, none⟩ = some (.pointer (some ⟨b.h, 0, none⟩))) ∧ u7.frozen? ⟨b.h, 2, none⟩ = false) := HK2.out _ u7 HBB.out hgrow
                      have kf := KK.out.2
                      have kk1 := KK.out.1.1
                      have HF7 : Hid (LR w (u7.setCell ⟨b.h, 2, none⟩ (.slice (some ⟨gg, 0, none⟩) (nR + 1) gc)) ⟨m, gm, mx, tb, hb, ab, l1, l2⟩ (k + 1 + 4)) := HFin.out _ u7 gg gc HBB.out hgrow hown hat
                      clear hown hgrow hat hlt1
                      refine hKc _ _ ⟨.inr (.inr ⟨fun q hq => by simp at hq; rcases hq with rfl | rfl <;> rfl, fun q hq => by simp at hq; subst hq; exact KK.out.1.2⟩), ?_⟩
                      clear hKc Kc
                      refine wpAnyE_pure (i := 14) (v := ?_) rfl (by kernel_rfl) (by kernel_rfl) (by kernel_rfl) (by kernel_rfl) (fun _ _ _ h => h) (fun fr u h => (SlotsCells.put 149 _ (by rfl)).1 h) (fun fr u h => (SlotsCells.put 149 _ (by rfl)).2 h) (.inr ⟨fun q hq => by simp at hq; rcases hq with rfl | rfl <;> rfl, fun q hq => by simp at hq; subst hq; exact KK.out.1.2⟩) (Or.inl ⟨by rfl, ?_⟩) ?_
                      rotate_left
                      · intro u
                        go_simp
                        with_reducible rfl
                      simp only [Act.put, List.setIfInBounds_toArray, List.set_cons_zero, List.set_cons_succ, List.getElem_toArray, List.getElem_cons_zero, List.getElem_cons_succ]
                      refine wpAnyE_pure (i := 15) (v := ?_) rfl (by kernel_rfl) (by kernel_rfl) (by kernel_rfl) (by kernel_rfl) (fun _ _ _ h => h) (fun fr u h => (SlotsCells.put 150 _ (by rfl)).1 h) (fun fr u h => (SlotsCells.put 150 _ (by rfl)).2 h) (.inr ⟨fun q hq => by simp at hq; rcases hq with rfl | rfl <;> rfl, fun q hq => by simp at hq; subst hq; exact KK.out.1.2⟩) (Or.inl ⟨by rfl, ?_⟩) ?_
                      rotate_left
                      · intro u
                        go_simp
                        with_reducible rfl
                      simp only [Act.put, List.setIfInBounds_toArray, List.set_cons_zero, List.set_cons_succ, List.getElem_toArray, List.getElem_cons_zero, List.getElem_cons_succ]
                      refine wpAnyE_some (rs := [16]) (by kernel_rfl) (by simp) (fun iq hiq => ?_)
                      simp only [List.mem_cons, List.not_mem_nil, or_false] at hiq
                      subst hiq
                      refine wpOp_step rfl (fun Kc hKc => ?_)
                      go_simp
                      refine hKc _ _ ⟨.inr (.inl rfl), ?_⟩
                      clear hKc Kc
                      refine wpAnyE_done (by kernel_rfl) ?_ _
                      go_wp2_with fail
                      go_roundw
                      case rel => exact ⟨k + 1, by omega, by simp, HF7.out⟩
                      case measure => simp only [civ]; omega
                    · refine wpOp_step rfl (fun Kc hKc => ?_)
                      go_simp
                      refine hKc _ _ ⟨.inr (.inr ⟨fun q hq => by simp at hq; rcases hq with rfl | rfl <;> rfl, fun q hq => by simp at hq; subst hq; exact HCA.out.1⟩), ?_⟩
                      clear hKc Kc
                      have c2d := HCA.out.2
                      refine wpAnyE_some (rs := [8]) (by kernel_rfl) (by simp) (fun iq hiq => ?_)
                      simp only [List.mem_cons, List.not_mem_nil, or_false] at hiq
                      subst hiq
                      refine wpOp_step rfl (fun Kc hKc => ?_)
                      go_simp
                      refine hKc _ _ ⟨.inr (.inr ⟨fun q hq => by simp at hq; rcases hq with rfl | rfl <;> rfl, fun q hq => by simp at hq; subst hq; exact HCA.out.1⟩), ?_⟩
                      clear hKc Kc
                      refine wpAnyE_some (rs := [13]) (by kernel_rfl) (by simp) (fun iq hiq => ?_)
                      simp only [List.mem_cons, List.not_mem_nil, or_false] at hiq
                      subst hiq
                      refine wpOp_step rfl (fun Kc hKc => ?_)
                      refine step_append_lies _ rfl (.tmp 143) (.tmp 147) 29 rfl w.heap.size 35 ig (.agg #[.int .i64 0, .int .i64 0]) 2 16 Try.underlying29 hig hgz0 hgz1 hgz2 rfl (by decide) (.slice aa nR cc) nR xR rfl (HRW.out) ⟨u3.heap.size, 0, none⟩ 1 1 [.int .i64 i, .int .i64 v] rfl rfl (HNW.out) ?_ (by decide) ?_ ?_ ?_ (u3.heap.size + 1) (HS2.out) ?_
                      · intro u hu; simp at hu; rcases hu with rfl | rfl <;> rfl
                      · unfold maxLen; omega
                      · omega
                      · exact HSZ.out
                      intro gg gc u7 hown hgrow hat hlt1
                      have KK : Hid ((u7.cell? ⟨b.h, 2, none⟩ = some (.slice aa nR cc) ∧ u7.cell? ⟨hb, j, none⟩ = some (.pointer (some ⟨b.h, 0, none⟩))) ∧ u7.frozen? ⟨b.h, 2, none⟩ = false) := HK2.out _ u7 HBB.out hgrow
                      have kf := KK.out.2
                      have kk1 := KK.out.1.1
                      have HF7 : Hid (LR w (u7.setCell ⟨b.h, 2, none⟩ (.slice (some ⟨gg, 0, none⟩) (nR + 1) gc)) ⟨m, gm, mx, tb, hb, ab, l1, l2⟩ (k + 1 + 4)) := HFin.out _ u7 gg gc HBB.out hgrow hown hat
                      clear hown hgrow hat hlt1
                      refine hKc _ _ ⟨.inr (.inr ⟨fun q hq => by simp at hq; rcases hq with rfl | rfl <;> rfl, fun q hq => by simp at hq; subst hq; exact KK.out.1.2⟩), ?_⟩
                      clear hKc Kc
                      refine wpAnyE_pure (i := 14) (v := ?_) rfl (by kernel_rfl) (by kernel_rfl) (by kernel_rfl) (by kernel_rfl) (fun _ _ _ h => h) (fun fr u h => (SlotsCells.put 149 _ (by rfl)).1 h) (fun fr u h => (SlotsCells.put 149 _ (by rfl)).2 h) (.inr ⟨fun q hq => by simp at hq; rcases hq with rfl | rfl <;> rfl, fun q hq => by simp at hq; subst hq; exact KK.out.1.2⟩) (Or.inl ⟨by rfl, ?_⟩) ?_
                      rotate_left
                      · intro u
                        go_simp
                        with_reducible rfl
                      simp only [Act.put, List.setIfInBounds_toArray, List.set_cons_zero, List.set_cons_succ, List.getElem_toArray, List.getElem_cons_zero, List.getElem_cons_succ]
                      refine wpAnyE_pure (i := 15) (v := ?_) rfl (by kernel_rfl) (by kernel_rfl) (by kernel_rfl) (by kernel_rfl) (fun _ _ _ h => h) (fun fr u h => (SlotsCells.put 150 _ (by rfl)).1 h) (fun fr u h => (SlotsCells.put 150 _ (by rfl)).2 h) (.inr ⟨fun q hq => by simp at hq; rcases hq with rfl | rfl <;> rfl, fun q hq => by simp at hq; subst hq; exact KK.out.1.2⟩) (Or.inl ⟨by rfl, ?_⟩) ?_
                      rotate_left
                      · intro u
                        go_simp
                        with_reducible rfl
                      simp only [Act.put, List.setIfInBounds_toArray, List.set_cons_zero, List.set_cons_succ, List.getElem_toArray, List.getElem_cons_zero, List.getElem_cons_succ]
                      refine wpAnyE_some (rs := [16]) (by kernel_rfl) (by simp) (fun iq hiq => ?_)
                      simp only [List.mem_cons, List.not_mem_nil, or_false] at hiq
                      subst hiq
                      refine wpOp_step rfl (fun Kc hKc => ?_)
                      go_simp
                      refine hKc _ _ ⟨.inr (.inl rfl), ?_⟩
                      clear hKc Kc
                      refine wpAnyE_done (by kernel_rfl) ?_ _
                      go_wp2_with fail
                      go_roundw
                      case rel => exact ⟨k + 1, by omega, by simp, HF7.out⟩
                      case measure => simp only [civ]; omega
                · have he1 : (e == 0) = false := by simpa using he0
                  have HJ : Hid (LR w u3 ⟨m, gm, mx, tb, hb, ab, l1, l2⟩ (k + 1 + 4)) := HNo.out u3 t3 (fun hx => he0 hx.1)
                  clear t3 crd o3 bh3
                  go_wp2_with fail
                  go_roundw
                  case rel => exact ⟨k + 1, by omega, by simp, HJ.out⟩
                  case measure => simp only [civ]; omega
            · as_aux_lemma =>
                go_wp2_with fail
                refine crd.mono ?_
                rintro r' u3 ⟨rfl, t3⟩
                obtain ⟨ch3, o3, bh3, hB3⟩ := HB3.out u3 t3
                by_cases he0 : e = 0
                · cases yo with
                  | true =>
                    have hsome : gt h.wr i ≠ none := fun hn => by have := HYW.out.2; rw [hn] at this; cases this
                    have hval : gt h.wr i = some v := HOwn.out he0 hsome
                    have HJ : Hid (LR w u3 ⟨m, gm, mx, tb, hb, ab, l1, l2⟩ (k + 1 + 4)) := HNo.out u3 t3 (fun hx => hsome hx.2)
                    have cm3 : u3.cell? ⟨b.h, 3, none⟩ = some (.map (some b.mb)) := o3.box.cell 3
                    have clk3 := mapL_getI o3.mp i (WalkArith.wf_i64 (by omega))
                    rw [hval] at clk3
                    simp only [Option.getD_some] at clk3
                    clear hsome hval t3 crd o3 bh3
                    subst he0
                    go_wp2_with fail
                    go_roundw
                    case rel => exact ⟨k + 1, by omega, by simp, HJ.out⟩
                    case measure => simp only [civ]; omega
                  | false =>
                    have hnone : gt h.wr i = none := by
                      have := HYW.out.2
                      cases hg : gt h.wr i with
                      | none => rfl
                      | some x => rw [hg] at this; cases this
                    have HY3 := HYes.out he0 hnone u3
                    obtain ⟨aa, cc, hrv⟩ := ownsRow_slice o3.row
                    have hrow := o3.row
                    rw [hrv] at hrow HY3
                    obtain ⟨nR, hnR⟩ : ∃ nR, nR = h.rd.length := ⟨_, rfl⟩
                    obtain ⟨xR, hxR⟩ : ∃ xR, xR = rcs h.rd := ⟨_, rfl⟩
                    have bx3 := o3.box
                    unfold hcs at bx3
                    rw [hrv] at bx3
                    rw [← hnR] at hrow HY3 hrdl bx3
                    rw [← hxR] at hrow HY3
                    have T3 : Hid (ToG w u2 m gm S' (l.set (cur j) (g, x')) G (fun _ => False) u3) := t3
                    have HY4 : Hid (∀ u6 u7 rv', Below u3.heap.size u3 u6 → u6.grownBy u7 (Value.slice aa nR cc).ownBlock → u7.ownsRow w.heap.size 35 2 rv' (nR + 1) (xR ++ [.int .i64 i, .int .i64 v]) → (∀ k, rv'.ownBlock = some k → (Value.slice aa nR cc).ownBlock = some k ∨ u3.heap.size ≤ k) → LR w (u7.setCell ⟨b.h, 2, none⟩ rv') ⟨m, gm, mx, tb, hb, ab, l1, l2⟩ (k + 1 + 4)) := fun u6 u7 rv' => HY3 u6 u7 rv' T3.out
                    have HBX : Hid (Box u3 b.h #[.int .i64 h.beg, .int .i64 h.ver, .slice aa nR cc, .map (some b.mb), .bool h.done] 32 ∧ Box u3 hb #[hp 0, hp 1, hp 2, hp 3] 44 ∧ u3.ownsRow w.heap.size 35 2 (.slice aa nR cc) nR xR) := ⟨bx3, bh3, hrow⟩
                    have c1 : u3.cell? ⟨b.h, 2, none⟩ = some (.slice aa nR cc) := bx3.cell 2
                    have f1 : u3.frozen? ⟨b.h, 2, none⟩ = false := bx3.frozen 2
                    have ca : ∀ o, (u3.alloc o).cell? ⟨b.h, 2, none⟩ = some (.slice aa nR cc) := fun o => (bx3.alloc o).cell 2
                    have hjv : (#[hp 0, hp 1, hp 2, hp 3] : Array Value)[j]? = some (.pointer (some ⟨b.h, 0, none⟩)) := (bh3.cell j).symm.trans ch3
                    have cah : ∀ o, (u3.alloc o).cell? ⟨hb, j, none⟩ = some (.pointer (some ⟨b.h, 0, none⟩)) := fun o => ((bh3.alloc o).cell j).trans hjv
                    have HNE : Hid (hb ≠ b.h) := bh3.ne bx3 (by decide)
                    have HK2 : Hid (∀ u6 u', Below u3.heap.size u3 u6 → u6.grownBy u' (Value.slice aa nR cc).ownBlock → (u'.cell? ⟨b.h, 2, none⟩ = some (.slice aa nR cc) ∧ u'.cell? ⟨hb, j, none⟩ = some (.pointer (some ⟨b.h, 0, none⟩))) ∧ u'.frozen? ⟨b.h, 2, none⟩ = false) := fun u6 u' hb' hg => by
                      have nb : ∀ {y : Nat} {cs : Array Value} {t : TypeId}, Box u3 y cs t → t ≠ 35 → Box u' y cs t := fun b ht => by
                        have b6 := b.below hb' b.lt
                        refine (hg.block _ b6.lt (fun e => ?_)).trans b6
                        obtain ⟨cs', hc⟩ := ownsRow_box HBX.out.2.2 _ e.symm
                        exact (b.ne hc ht) rfl
                      have b1 := nb HBX.out.1 (by decide)
                      have b2 := nb HBX.out.2.1 (by decide)
                      exact ⟨⟨b1.cell 2, (b2.cell j).trans hjv⟩, b1.frozen 2⟩
                    have HFin : Hid (∀ u6 u7 gg gc, Below u3.heap.size u3 u6 → u6.grownBy u7 (Value.slice aa nR cc).ownBlock → u7.ownsRow w.heap.size 35 2 (.slice (some ⟨gg, 0, none⟩) (nR + 1) gc) (nR + 1) (xR ++ [.int .i64 i, .int .i64 v]) → ((Value.slice aa nR cc).ownBlock = some gg ∨ gg = u3.heap.size + 1) → LR w (u7.setCell ⟨b.h, 2, none⟩ (.slice (some ⟨gg, 0, none⟩) (nR + 1) gc)) ⟨m, gm, mx, tb, hb, ab, l1, l2⟩ (k + 1 + 4)) := fun u6 u7 gg gc h6 h7 hr hat => HY4.out u6 u7 _ h6 h7 hr (fun k hk => by
                      have e : gg = k := by injection hk
                      subst e
                      rcases hat with h | h
                      · exact .inl h
                      · exact .inr (by omega))
                    have B0 : Below u3.heap.size u3 u3 := Below.refl _ _
                    clear hrow HY3 bx3 bh3 hxR hnR hrv hnone t3 crd o3 hjv T3
                    subst he0
                    go_upto_region 32 with fail
                    have HCS : Hid (u3.drew.cell? ⟨hb, j, none⟩ = some (.pointer (some ⟨b.h, 0, none⟩))) := ch3
                    obtain ⟨w2, hw2⟩ : ∃ w2, w2 = u3.drew.alloc (.cells #[.int .i64 i, .int .i64 v] 35) := ⟨_, rfl⟩
                    have hw2' : (u3.alloc (Obj.cells #[.int .i64 i, .int .i64 v] 35)).drew = w2 := by rw [hw2]; rfl
                    have HBB : Hid (Below u3.heap.size u3 w2) := by rw [hw2]; exact B0.drew.alloc (Nat.le_refl _) _
                    have HRW : Hid (w2.ownsRow w.heap.size 35 2 (.slice aa nR cc) nR xR) := ownsRow_below HBX.out.2.2 HBB.out.block
                    have HNW : Hid (∀ j u, [Value.int .i64 i, .int .i64 v][j]? = some u → w2.cell? ((⟨u3.heap.size, 0, none⟩ : Addr).add j) = some u) := by
                      have hn := World.news_of_block (cs := #[.int .i64 i, .int .i64 v]) (t := 35) (fr := (0, 0)) (heap_alloc_new u3.drew (.cells #[.int .i64 i, .int .i64 v] 35))
                      rw [← hw2] at hn
                      exact hn
                    have HSZ : Hid (w.heap.size ≤ w2.heap.size) := by
                      have h1 := HBB.out.size
                      show w.heap.size ≤ w2.heap.size
                      omega
                    have HCA : Hid (w2.cell? ⟨hb, j, none⟩ = some (.pointer (some ⟨b.h, 0, none⟩)) ∧ w2.cell? ⟨b.h, 2, none⟩ = some (.slice aa nR cc)) := by
                      rw [hw2]
                      exact ⟨cah _, ca _⟩
                    have HS2 : Hid (w2.heap.size = u3.heap.size + 1) := by
                      show w2.heap.size = u3.heap.size + 1
                      rw [hw2]; simp
                    have c1d : u3.drew.cell? ⟨b.h, 2, none⟩ = some (.slice aa nR cc) := c1
                    clear hw2
                    refine wp_region_any (by kernel_rfl) ?_
                    refine wpAny_take (i := 0) (v := ?_) rfl (by kernel_rfl) (by kernel_rfl) (by kernel_rfl) (fun _ _ _ h => h) (Or.inl ⟨by rfl, ?_⟩) ?_
                    rotate_left
                    · intro u
                      go_simp
                      with_reducible rfl
                    simp only [Act.put, List.setIfInBounds_toArray, List.set_cons_zero, List.set_cons_succ, List.getElem_toArray, List.getElem_cons_zero]
                    refine wpAny_take (i := 1) (v := ?_) rfl (by kernel_rfl) (by kernel_rfl) (by kernel_rfl) (fun _ _ _ h => h) (Or.inl ⟨by rfl, ?_⟩) ?_
                    rotate_left
                    · intro u
                      go_simp
                      with_reducible rfl
                    simp only [Act.put, List.setIfInBounds_toArray, List.set_cons_zero, List.set_cons_succ, List.getElem_toArray, List.getElem_cons_zero, List.getElem_cons_succ]
                    refine wpAny_take (i := 3) (v := ?_) rfl (by kernel_rfl) (by kernel_rfl) (by kernel_rfl) (fun _ _ _ h => h) (Or.inl ⟨by rfl, ?_⟩) ?_
                    rotate_left
                    · intro u
                      go_simp
                      with_reducible rfl
                    simp only [Act.put, List.setIfInBounds_toArray, List.set_cons_zero, List.set_cons_succ, List.getElem_toArray, List.getElem_cons_zero, List.getElem_cons_succ]
                    refine wpAny_take (i := 4) (v := ?_) rfl (by kernel_rfl) (by kernel_rfl) (by kernel_rfl) (fun _ _ _ h => h) (Or.inl ⟨by rfl, ?_⟩) ?_
                    rotate_left
                    · intro u
                      go_simp
                      with_reducible rfl
                    simp only [Act.put, List.setIfInBounds_toArray, List.set_cons_zero, List.set_cons_succ, List.getElem_toArray, List.getElem_cons_zero, List.getElem_cons_succ]
                    refine wpAny_take (i := 9) (v := ?_) rfl (by kernel_rfl) (by kernel_rfl) (by kernel_rfl) (fun _ _ _ h => h) (Or.inl ⟨by rfl, ?_⟩) ?_
                    rotate_left
                    · intro u
                      go_simp
                      with_reducible rfl
                    simp only [Act.put, List.setIfInBounds_toArray, List.set_cons_zero, List.set_cons_succ, List.getElem_toArray, List.getElem_cons_zero, List.getElem_cons_succ]
                    refine wpAny_take (i := 10) (v := ?_) rfl (by kernel_rfl) (by kernel_rfl) (by kernel_rfl) (fun _ _ _ h => h) (Or.inl ⟨by rfl, ?_⟩) ?_
                    rotate_left
                    · intro u
                      go_simp
                      with_reducible rfl
                    simp only [Act.put, List.setIfInBounds_toArray, List.set_cons_zero, List.set_cons_succ, List.getElem_toArray, List.getElem_cons_zero, List.getElem_cons_succ]
                    refine wpAny_take (i := 11) (v := ?_) rfl (by kernel_rfl) (by kernel_rfl) (by kernel_rfl) (fun _ _ _ h => h) (Or.inl ⟨by rfl, ?_⟩) ?_
                    rotate_left
                    · intro u
                      go_simp
                      with_reducible rfl
                    simp only [Act.put, List.setIfInBounds_toArray, List.set_cons_zero, List.set_cons_succ, List.getElem_toArray, List.getElem_cons_zero, List.getElem_cons_succ]
                    refine wpAny_of_E (C := SlotsCells [(136, .pointer (some ⟨hb, j, none⟩)), (139, .pointer (some ⟨hb, j, none⟩))] [(⟨hb, j, none⟩, .pointer (some ⟨b.h, 0, none⟩))]) (late := [16]) _ _ _ _ ?_
                    refine wpAnyE_take (i := 2) (v := .pointer (some ⟨b.h, 0, none⟩)) rfl (by kernel_rfl) (by kernel_rfl) (by kernel_rfl) (by kernel_rfl) (by kernel_rfl) (by kernel_rfl) (fun _ _ _ h => h) ?_ (fun fr u h => (SlotsCells.put 137 _ (by rfl)).1 h) (fun fr u h => (SlotsCells.put 137 _ (by rfl)).2 h) ?_ ?_
                    · intro fr u hh
                      obtain ⟨e1, e2⟩ := hh.load (s := 136) (p := ⟨hb, j, none⟩) (v := .pointer (some ⟨b.h, 0, none⟩)) (by simp) (by simp)
                      exact ⟨rfl, by simp [execOp, e1, go_sem, e2]⟩
                    · exact ⟨fun q hq => by simp at hq; rcases hq with rfl | rfl <;> rfl, fun q hq => by simp at hq; subst hq; exact HCS.out⟩
                    simp only [Act.put, List.setIfInBounds_toArray, List.set_cons_zero, List.set_cons_succ, List.getElem_toArray, List.getElem_cons_zero, List.getElem_cons_succ]
                    refine wpAnyE_take (i := 5) (v := .pointer (some ⟨b.h, 0, none⟩)) rfl (by kernel_rfl) (by kernel_rfl) (by kernel_rfl) (by kernel_rfl) (by kernel_rfl) (by kernel_rfl) (fun _ _ _ h => h) ?_ (fun fr u h => (SlotsCells.put 140 _ (by rfl)).1 h) (fun fr u h => (SlotsCells.put 140 _ (by rfl)).2 h) ?_ ?_
                    · intro fr u hh
                      obtain ⟨e1, e2⟩ := hh.load (s := 139) (p := ⟨hb, j, none⟩) (v := .pointer (some ⟨b.h, 0, none⟩)) (by simp) (by simp)
                      exact ⟨rfl, by simp [execOp, e1, go_sem, e2]⟩
                    · exact ⟨fun q hq => by simp at hq; rcases hq with rfl | rfl <;> rfl, fun q hq => by simp at hq; subst hq; exact HCS.out⟩
                    simp only [Act.put, List.setIfInBounds_toArray, List.set_cons_zero, List.set_cons_succ, List.getElem_toArray, List.getElem_cons_zero, List.getElem_cons_succ]
                    refine wpAnyE_pure (i := 6) (v := ?_) rfl (by kernel_rfl) (by kernel_rfl) (by kernel_rfl) (by kernel_rfl) (fun _ _ _ h => h) (fun fr u h => (SlotsCells.put 141 _ (by rfl)).1 h) (fun fr u h => (SlotsCells.put 141 _ (by rfl)).2 h) (.inr ⟨fun q hq => by simp at hq; rcases hq with rfl | rfl <;> rfl, fun q hq => by simp at hq; subst hq; exact HCS.out⟩) (Or.inl ⟨by rfl, ?_⟩) ?_
                    rotate_left
                    · intro u
                      go_simp
                      with_reducible rfl
                    simp only [Act.put, List.setIfInBounds_toArray, List.set_cons_zero, List.set_cons_succ, List.getElem_toArray, List.getElem_cons_zero, List.getElem_cons_succ]
                    refine wpAnyE_pure (i := 7) (v := ?_) rfl (by kernel_rfl) (by kernel_rfl) (by kernel_rfl) (by kernel_rfl) (fun _ _ _ h => h) (fun fr u h => (SlotsCells.put 142 _ (by rfl)).1 h) (fun fr u h => (SlotsCells.put 142 _ (by rfl)).2 h) (.inr ⟨fun q hq => by simp at hq; rcases hq with rfl | rfl <;> rfl, fun q hq => by simp at hq; subst hq; exact HCS.out⟩) (Or.inl ⟨by rfl, ?_⟩) ?_
                    rotate_left
                    · intro u
                      go_simp
                      with_reducible rfl
                    simp only [Act.put, List.setIfInBounds_toArray, List.set_cons_zero, List.set_cons_succ, List.getElem_toArray, List.getElem_cons_zero, List.getElem_cons_succ]
                    refine wpAnyE_some (rs := [8, 12]) (by kernel_rfl) (by simp) (fun iq hiq => ?_)
                    simp only [List.mem_cons, List.not_mem_nil, or_false] at hiq
                    rcases hiq with rfl | rfl
                    · refine wpOp_step rfl (fun Kc hKc => ?_)
                      go_simp
                      refine hKc _ _ ⟨.inr (.inr ⟨fun q hq => by simp at hq; rcases hq with rfl | rfl <;> rfl, fun q hq => by simp at hq; subst hq; exact HCS.out⟩), ?_⟩
                      clear hKc Kc
                      refine wpAnyE_some (rs := [12]) (by kernel_rfl) (by simp) (fun iq hiq => ?_)
                      simp only [List.mem_cons, List.not_mem_nil, or_false] at hiq
                      subst hiq
                      refine wpOp_step rfl (fun Kc hKc => ?_)
                      go_simp
                      refine hKc _ _ ⟨.inr (.inr ⟨fun q hq => by simp at hq; rcases hq with rfl | rfl <;> rfl, fun q hq => by simp at hq; subst hq; exact HCA.out.1⟩), ?_⟩
                      clear hKc Kc
                      refine wpAnyE_some (rs := [13]) (by kernel_rfl) (by simp) (fun iq hiq => ?_)
                      simp only [List.mem_cons, List.not_mem_nil, or_false] at hiq
                      subst hiq
                      refine wpOp_step rfl (fun Kc hKc => ?_)
                      refine step_append_lies _ rfl (.tmp 143) (.tmp 147) 29 rfl w.heap.size 35 ig (.agg #[.int .i64 0, .int .i64 0]) 2 16 Try.underlying29 hig hgz0 hgz1 hgz2 rfl (by decide) (.slice aa nR cc) nR xR rfl (HRW.out) ⟨u3.heap.size, 0, none⟩ 1 1 [.int .i64 i, .int .i64 v] rfl rfl (HNW.out) ?_ (by decide) ?_ ?_ ?_ (u3.heap.size + 1) (HS2.out) ?_
                      · intro u hu; simp at hu; rcases hu with rfl | rfl <;> rfl
                      · unfold maxLen; omega
                      · omega
                      · exact HSZ.out
                      intro gg gc u7 hown hgrow hat hlt1
                      have KK : Hid ((u7.cell? ⟨b.h, 2, none⟩ = some (.slice aa nR cc) ∧ u7.cell? ⟨hb, j, none⟩ = some (.pointer (some ⟨b.h, 0, none⟩))) ∧ u7.frozen? ⟨b.h, 2, none⟩ = false) := HK2.out _ u7 HBB.out hgrow
                      have kf := KK.out.2
                      have kk1 := KK.out.1.1
                      have HF7 : Hid (LR w (u7.setCell ⟨b.h, 2, none⟩ (.slice (some ⟨gg, 0, none⟩) (nR + 1) gc)) ⟨m, gm, mx, tb, hb, ab, l1, l2⟩ (k + 1 + 4)) := HFin.out _ u7 gg gc HBB.out hgrow hown hat
                      clear hown hgrow hat hlt1
                      refine hKc _ _ ⟨.inr (.inr ⟨fun q hq => by simp at hq; rcases hq with rfl | rfl <;> rfl, fun q hq => by simp at hq; subst hq; exact KK.out.1.2⟩), ?_⟩
                      clear hKc Kc
                      refine wpAnyE_pure (i := 14) (v := ?_) rfl (by kernel_rfl) (by kernel_rfl) (by kernel_rfl) (by kernel_rfl) (fun _ _ _ h => h) (fun fr u h => (SlotsCells.put 149 _ (by rfl)).1 h) (fun fr u h => (SlotsCells.put 149 _ (by rfl)).2 h) (.inr ⟨fun q hq => by simp at hq; rcases hq with rfl | rfl <;> rfl, fun q hq => by simp at hq; subst hq; exact KK.out.1.2⟩) (Or.inl ⟨by rfl, ?_⟩) ?_
                      rotate_left
                      · intro u
                        go_simp
                        with_reducible rfl
                      simp only [Act.put, List.setIfInBounds_toArray, List.set_cons_zero, List.set_cons_succ, List.getElem_toArray, List.getElem_cons_zero, List.getElem_cons_succ]
                      refine wpAnyE_pure (i := 15) (v := ?_) rfl (by kernel_rfl) (by kernel_rfl) (by kernel_rfl) (by kernel_rfl) (fun _ _ _ h => h) (fun fr u h => (SlotsCells.put 150 _ (by rfl)).1 h) (fun fr u h => (SlotsCells.put 150 _ (by rfl)).2 h) (.inr ⟨fun q hq => by simp at hq; rcases hq with rfl | rfl <;> rfl, fun q hq => by simp at hq; subst hq; exact KK.out.1.2⟩) (Or.inl ⟨by rfl, ?_⟩) ?_
                      rotate_left
                      · intro u
                        go_simp
                        with_reducible rfl
                      simp only [Act.put, List.setIfInBounds_toArray, List.set_cons_zero, List.set_cons_succ, List.getElem_toArray, List.getElem_cons_zero, List.getElem_cons_succ]
                      refine wpAnyE_some (rs := [16]) (by kernel_rfl) (by simp) (fun iq hiq => ?_)
                      simp only [List.mem_cons, List.not_mem_nil, or_false] at hiq
                      subst hiq
                      refine wpOp_step rfl (fun Kc hKc => ?_)
                      go_simp
                      refine hKc _ _ ⟨.inr (.inl rfl), ?_⟩
                      clear hKc Kc
                      refine wpAnyE_done (by kernel_rfl) ?_ _
                      go_wp2_with fail
                      go_roundw
                      case rel => exact ⟨k + 1, by omega, by simp, HF7.out⟩
                      case measure => simp only [civ]; omega
                    · refine wpOp_step rfl (fun Kc hKc => ?_)
                      go_simp
                      refine hKc _ _ ⟨.inr (.inr ⟨fun q hq => by simp at hq; rcases hq with rfl | rfl <;> rfl, fun q hq => by simp at hq; subst hq; exact HCA.out.1⟩), ?_⟩
                      clear hKc Kc
                      have c2d := HCA.out.2
                      refine wpAnyE_some (rs := [8]) (by kernel_rfl) (by simp) (fun iq hiq => ?_)
                      simp only [List.mem_cons, List.not_mem_nil, or_false] at hiq
                      subst hiq
                      refine wpOp_step rfl (fun Kc hKc => ?_)
                      go_simp
                      refine hKc _ _ ⟨.inr (.inr ⟨fun q hq => by simp at hq; rcases hq with rfl | rfl <;> rfl, fun q hq => by simp at hq; subst hq; exact HCA.out.1⟩), ?_⟩
                      clear hKc Kc
                      refine wpAnyE_some (rs := [13]) (by kernel_rfl) (by simp) (fun iq hiq => ?_)
                      simp only [List.mem_cons, List.not_mem_nil, or_false] at hiq
                      subst hiq
                      refine wpOp_step rfl (fun Kc hKc => ?_)
                      refine step_append_lies _ rfl (.tmp 143) (.tmp 147) 29 rfl w.heap.size 35 ig (.agg #[.int .i64 0, .int .i64 0]) 2 16 Try.underlying29 hig hgz0 hgz1 hgz2 rfl (by decide) (.slice aa nR cc) nR xR rfl (HRW.out) ⟨u3.heap.size, 0, none⟩ 1 1 [.int .i64 i, .int .i64 v] rfl rfl (HNW.out) ?_ (by decide) ?_ ?_ ?_ (u3.heap.size + 1) (HS2.out) ?_
                      · intro u hu; simp at hu; rcases hu with rfl | rfl <;> rfl
                      · unfold maxLen; omega
                      · omega
                      · exact HSZ.out
                      intro gg gc u7 hown hgrow hat hlt1
                      have KK : Hid ((u7.cell? ⟨b.h, 2, none⟩ = some (.slice aa nR cc) ∧ u7.cell? ⟨hb, j, none⟩ = some (.pointer (some ⟨b.h, 0, none⟩))) ∧ u7.frozen? ⟨b.h, 2, none⟩ = false) := HK2.out _ u7 HBB.out hgrow
                      have kf := KK.out.2
                      have kk1 := KK.out.1.1
                      have HF7 : Hid (LR w (u7.setCell ⟨b.h, 2, none⟩ (.slice (some ⟨gg, 0, none⟩) (nR + 1) gc)) ⟨m, gm, mx, tb, hb, ab, l1, l2⟩ (k + 1 + 4)) := HFin.out _ u7 gg gc HBB.out hgrow hown hat
                      clear hown hgrow hat hlt1
                      refine hKc _ _ ⟨.inr (.inr ⟨fun q hq => by simp at hq; rcases hq with rfl | rfl <;> rfl, fun q hq => by simp at hq; subst hq; exact KK.out.1.2⟩), ?_⟩
                      clear hKc Kc
                      refine wpAnyE_pure (i := 14) (v := ?_) rfl (by kernel_rfl) (by kernel_rfl) (by kernel_rfl) (by kernel_rfl) (fun _ _ _ h => h) (fun fr u h => (SlotsCells.put 149 _ (by rfl)).1 h) (fun fr u h => (SlotsCells.put 149 _ (by rfl)).2 h) (.inr ⟨fun q hq => by simp at hq; rcases hq with rfl | rfl <;> rfl, fun q hq => by simp at hq; subst hq; exact KK.out.1.2⟩) (Or.inl ⟨by rfl, ?_⟩) ?_
                      rotate_left
                      · intro u
                        go_simp
                        with_reducible rfl
                      simp only [Act.put, List.setIfInBounds_toArray, List.set_cons_zero, List.set_cons_succ, List.getElem_toArray, List.getElem_cons_zero, List.getElem_cons_succ]
                      refine wpAnyE_pure (i := 15) (v := ?_) rfl (by kernel_rfl) (by kernel_rfl) (by kernel_rfl) (by kernel_rfl) (fun _ _ _ h => h) (fun fr u h => (SlotsCells.put 150 _ (by rfl)).1 h) (fun fr u h => (SlotsCells.put 150 _ (by rfl)).2 h) (.inr ⟨fun q hq => by simp at hq; rcases hq with rfl | rfl <;> rfl, fun q hq => by simp at hq; subst hq; exact KK.out.1.2⟩) (Or.inl ⟨by rfl, ?_⟩) ?_
                      rotate_left
                      · intro u
                        go_simp
                        with_reducible rfl
                      simp only [Act.put, List.setIfInBounds_toArray, List.set_cons_zero, List.set_cons_succ, List.getElem_toArray, List.getElem_cons_zero, List.getElem_cons_succ]
                      refine wpAnyE_some (rs := [16]) (by kernel_rfl) (by simp) (fun iq hiq => ?_)
                      simp only [List.mem_cons, List.not_mem_nil, or_false] at hiq
                      subst hiq
                      refine wpOp_step rfl (fun Kc hKc => ?_)
                      go_simp
                      refine hKc _ _ ⟨.inr (.inl rfl), ?_⟩
                      clear hKc Kc
                      refine wpAnyE_done (by kernel_rfl) ?_ _
                      go_wp2_with fail
                      go_roundw
                      case rel => exact ⟨k + 1, by omega, by simp, HF7.out⟩
                      case measure => simp only [civ]; omega
                · have he1 : (e == 0) = false := by simpa using he0
                  have HJ : Hid (LR w u3 ⟨m, gm, mx, tb, hb, ab, l1, l2⟩ (k + 1 + 4)) := HNo.out u3 t3 (fun hx => he0 hx.1)
                  clear t3 crd o3 bh3
                  go_wp2_with fail
                  go_roundw
                  case rel => exact ⟨k + 1, by omega, by simp, HJ.out⟩
                  case measure => simp only [civ]; omega
          have n0 : ¬ kd = 0 := fun h => nZ (.inl h)
          have n1 : ¬ kd = 1 := fun h => nZ (.inr (.inl h))
          have n4 : ¬ kd = 4 := fun h => nZ (.inr (.inr (.inl h)))
          have n5 : ¬ kd = 5 := fun h => nZ (.inr (.inr (.inr (.inl h))))
          have n6 : ¬ kd = 6 := fun h => nZ (.inr (.inr (.inr (.inr h))))
          have n10 : ¬ kd = 10 := k10
          have n2 : ¬ kd = 2 := kK
          have n3 : ¬ kd = 3 := kK3
          have n11 : ¬ kd = 11 := kB
          obtain ⟨rs, hrs⟩ : ∃ rs, rs = x.step S := ⟨_, rfl⟩
          obtain ⟨v, e, S', x'⟩ := rs
          have hvs : v = x'.st := step_st hrs.symm
          have csp := HM2.out.1.hg.step (V := fun _ => False) HF.out.2.1 hrs.symm
          have HK : Hid (∀ u3, ToG w u2 m gm S' (l.set (cur j) (g, x')) G (fun _ => False) u3 → (¬ (v = 3 ∧ h.done = false) → LR w u3 ⟨m, gm, mx, tb, hb, ab, l1, l2⟩ (k + 1 + 4)) ∧ (v = 3 → (u3.cell? ⟨hb, j, none⟩ = some (.pointer (some ⟨b.h, 0, none⟩)) ∧ u3.cell? ⟨tb, j, none⟩ = some (.pointer (some ⟨g, 0, none⟩))) ∧ (u3.cell? ⟨b.h, 4, none⟩ = some (.bool h.done) ∧ u3.frozen? ⟨b.h, 4, none⟩ = false ∧ u3.cell? ⟨b.h, 1, none⟩ = some (.int .i64 h.ver) ∧ u3.frozen? ⟨b.h, 1, none⟩ = false) ∧ (∀ q, Calls Try.prog 18 #[.pointer (some ⟨g, 0, none⟩)] (u3.drewN q) fun r u4 => r = .returned (.int .i64 x'.ver) ∧ u4 = u3.drewN q) ∧ (h.done = false → LR w ((u3.setCell ⟨b.h, 4, none⟩ (.bool true)).setCell ⟨b.h, 1, none⟩ (.int .i64 x'.ver)) ⟨m, gm, mx, tb, hb, ab, l1, l2⟩ (k + 1 + 4)))) := fun u3 t3 => by
            have hm3 := HM2.out.1.call t3
            refine ⟨fun hn => (LR.stepNo HM2.out.1 HQ1.out.1 HQ1.out.2 hj HF.out.2.1 HF.out.2.2.1 hrs.symm t3 hn).more, fun h3 => ?_⟩
            have o3 := (hm3.hm.one _ b h HF.out.2.2.2.1 HF.out.2.2.1).1
            have hjj : j = 0 ∨ j = 1 ∨ j = 2 ∨ j = 3 := by omega
            have hh := HF.out.2.2.2.2
            have hg := HF.out.1
            refine ⟨⟨?_, ?_⟩, ⟨o3.box.cell 4, o3.box.frozen 4, o3.box.cell 1, o3.box.frozen 1⟩, fun q => ?_, fun hd => ?_⟩
            · rw [hm3.bh.cell j]
              rcases hjj with rfl | rfl | rfl | rfl <;> exact congrArg some hh
            · rw [hm3.bt.cell j]
              rcases hjj with rfl | rfl | rfl | rfl <;> exact congrArg some hg
            · have hl3 : (l.set (cur j) (g, x'))[cur j]? = some (g, x') := by rw [List.getElem?_set, if_pos rfl, if_pos (List.getElem?_eq_some_iff.1 HF.out.2.1).1]
              have := (hm3.hg.drew q).version hl3
              rw [if_pos (by rw [← hvs]; exact h3)] at this
              exact this
            · have hrs' := hrs.symm
              rw [h3] at hrs'
              exact (LR.stepYes HM2.out.1 HQ1.out.1 HQ1.out.2 hj HF.out.2.1 HF.out.2.2.1 HF.out.2.2.2.1 hrs' t3 hd).more
          unfold ptr at csp
          clear hrs hvs
          have d0 : (kd == 0) = false := by simpa using n0
          have d1 : (kd == 1) = false := by simpa using n1
          have d2 : (kd == 2) = false := by simpa using n2
          have d3 : (kd == 3) = false := by simpa using n3
          have d4 : (kd == 4) = false := by simpa using n4
          have d5 : (kd == 5) = false := by simpa using n5
          have d6 : (kd == 6) = false := by simpa using n6
          have d10 : (kd == 10) = false := by simpa using n10
          have d11 : (kd == 11) = false := by simpa using n11
          go_wp2_with fail
          refine csp.mono ?_
          rintro r' u3 ⟨rfl, t3⟩
          obtain ⟨hn1, hy1⟩ := HK.out u3 t3
          clear t3 HK csp
          by_cases hv3 : v = 3
          · subst hv3
            obtain ⟨⟨ch3, ct3⟩, ⟨k4, f4, k1, f1⟩, cver, hy2⟩ := hy1 rfl
            cases hdn : h.done with
            | true =>
              rw [hdn] at k4
              have HJ : Hid (LR w u3 ⟨m, gm, mx, tb, hb, ab, l1, l2⟩ (k + 1 + 4)) := hn1 (by rw [hdn]; simp)
              clear hn1 hy1 hy2 cver
              go_wp2_with fail
              go_roundw
              case rel => exact ⟨k + 1, by omega, by simp, HJ.out⟩
              case measure => simp only [civ]; omega
            | false =>
              rw [hdn] at k4
              have HJ : Hid (LR w ((u3.setCell ⟨b.h, 4, none⟩ (.bool true)).setCell ⟨b.h, 1, none⟩ (.int .i64 x'.ver)) ⟨m, gm, mx, tb, hb, ab, l1, l2⟩ (k + 1 + 4)) := hy2 hdn
              have q1 : ¬ hb = b.h := HM2.out.1.bh.ne HM2.out.2.box (by decide)
              have q2 : ¬ tb = b.h := HM2.out.1.bt.ne HM2.out.2.box (by decide)
              have q3 : ¬ b.h = hb := fun e => q1 e.symm
              have q4 : ¬ b.h = tb := fun e => q2 e.symm
              clear hn1 hy1 hy2
              go_upto_region 23 with fail
              go_region_held3 (fun u => u.cell? ⟨hb, j, none⟩ = some (.pointer (some ⟨b.h, 0, none⟩)) ∧ u.cell? ⟨tb, j, none⟩ = some (.pointer (some ⟨g, 0, none⟩))) (go_keep) ((go_at_call 18; (first | refine (cver 0).mono ?_ | refine (cver 1).mono ?_ | refine (cver 2).mono ?_); rintro r' wx ⟨rfl, hwx⟩; subst wx))
              go_wp2_with fail
              go_roundw
              case rel => exact ⟨k + 1, by omega, by simp, by first | exact HJ.out | exact HJ.out.drew⟩
              case measure => simp only [civ]; omega
          · have hv3' : (v == 3) = false := by simpa using hv3
            have HJ : Hid (LR w u3 ⟨m, gm, mx, tb, hb, ab, l1, l2⟩ (k + 1 + 4)) := hn1 (fun hx => hv3 hx.1)
            clear hn1 hy1
            go_wp2_with fail
            go_roundw
            case rel => exact ⟨k + 1, by omega, by simp, HJ.out⟩
            case measure => simp only [civ]; omega
        · have HG0 : Hid (LG w wr ⟨m, gm, mx, tb, hb, ab, l1, l2⟩ 304 0 none) := by
            obtain ⟨S, l, G, P, A, gp, hp, cur, q1, q2, q3⟩ := HLR.out.toLG
            exact ⟨S, l, G, P, A, gp, hp, cur, q1, q2, by have := q3.1; omega, fun a h e => by have := q3.2 a h e; omega⟩
          clear HLR HR0
          by_cases hN2 : k < N
          · as_aux_lemma =>
              have t1 : (k : Int) < (N : Int) := by omega
              have t2 : ¬ (k : Int) < 300 := by omega
              go_wp2_with fail
              go_loopw [215] (fun i u' => ∃ k : Nat, k ≤ 4 ∧ i = .int .i64 (k : Int) ∧ LG w u' ⟨m, gm, mx, tb, hb, ab, l1, l2⟩ 304 k none) (fun i _ => 4 - (civ i).toNat)
              case atStart => exact ⟨0, by omega, rfl, HG0.out⟩
              case round =>
                obtain ⟨k2, hk2, rfl, hLG⟩ := hrel
                have HLG : Hid (LG w wr ⟨m, gm, mx, tb, hb, ab, l1, l2⟩ 304 k2 none) := hLG
                clear hLG HG0
                by_cases hlt2 : k2 < 4
                · have hki2 : (k2 : Int) < 4 := by omega
                  obtain ⟨S, l, G, P, A, gp, hp, cur, hm, hq, hA⟩ := HLG.out
                  obtain ⟨g, x, h, b, hg1, hl, hA1, hP1, hh1⟩ := hq.at hlt2
                  have hjj : k2 = 0 ∨ k2 = 1 ∨ k2 = 2 ∨ k2 = 3 := by omega
                  have ct : wr.cell? ⟨tb, k2, none⟩ = some (.pointer (some ⟨g, 0, none⟩)) := by
                    rw [hm.bt.cell k2]
                    rcases hjj with rfl | rfl | rfl | rfl <;> exact congrArg some hg1
                  obtain ⟨ra, hra⟩ : ∃ ra, ra = x.abort S := ⟨_, rfl⟩
                  obtain ⟨e, S', x'⟩ := ra
                  have cab := hm.hg.abort (V := fun _ => False) hl hra.symm
                  have HKa : Hid (∀ u3, ToG w wr m gm S' (l.set (cur k2) (g, x')) G (fun _ => False) u3 → (e = 0 ∧ LG w u3 ⟨m, gm, mx, tb, hb, ab, l1, l2⟩ 304 (k2 + 1) none) ∨ (e = 132 ∧ LG w u3 ⟨m, gm, mx, tb, hb, ab, l1, l2⟩ 304 k2 (some 20))) := fun u3 t => LG.abort hm hq hA hlt2 hl hra.symm t
                  unfold ptr at cab
                  clear hra hm hq hA hg1 hl hA1 hP1 hh1 hjj HLG
                  go_wp2_with fail
                  refine cab.mono ?_
                  rintro r' u3 ⟨rfl, t3⟩
                  rcases HKa.out u3 t3 with ⟨rfl, hn⟩ | ⟨rfl, hn⟩
                  · have HN : Hid (LG w u3 ⟨m, gm, mx, tb, hb, ab, l1, l2⟩ 304 (k2 + 1) none) := hn
                    clear hn t3 HKa cab
                    go_wp2_with fail
                    go_roundw
                    case rel => exact ⟨k2 + 1, by omega, by simp, HN.out⟩
                    case measure => simp only [civ]; omega
                  · have HN : Hid (LG w u3 ⟨m, gm, mx, tb, hb, ab, l1, l2⟩ 304 k2 (some 20)) := hn
                    clear hn t3 HKa cab ct
                    go_wp2_with fail
                    obtain ⟨u3', hu3'⟩ : ∃ u3', u3' = u3 := ⟨_, rfl⟩
                    subst hu3'
                    go_loopw [25] (fun i u' => ∃ n : Nat, n ≤ 20 ∧ i = .int .i64 (n : Int) ∧ LG w u' ⟨m, gm, mx, tb, hb, ab, l1, l2⟩ 304 k2 (some (20 - n))) (fun i _ => 20 - (civ i).toNat)
                    case atStart => exact ⟨0, by omega, rfl, HN.out⟩
                    case round =>
                      obtain ⟨n2, hn2, rfl, hLG⟩ := hrel
                      have HLG : Hid (LG w wr ⟨m, gm, mx, tb, hb, ab, l1, l2⟩ 304 k2 (some (20 - n2))) := hLG
                      clear hLG HN
                      by_cases hlt3 : n2 < 20
                      · have hni : (n2 : Int) < 20 := by omega
                        obtain ⟨S, l, G, P, A, gp, hp, cur, hm, hq, hA⟩ := HLG.out
                        obtain ⟨g, x, h, b, hg1, hl, hA1, hP1, hh1⟩ := hq.at hlt2
                        obtain ⟨oh, _⟩ := hm.hm.one _ b h hP1 hA1
                        have hjj : k2 = 0 ∨ k2 = 1 ∨ k2 = 2 ∨ k2 = 3 := by omega
                        have ct : wr.cell? ⟨tb, k2, none⟩ = some (.pointer (some ⟨g, 0, none⟩)) := by
                          rw [hm.bt.cell k2]
                          rcases hjj with rfl | rfl | rfl | rfl <;> exact congrArg some hg1
                        have HM2 : Hid (LM w wr ⟨m, gm, mx, tb, hb, ab, l1, l2⟩ S l G P A gp hp (hpt P) ∧ OneH wr w.heap.size b h) := ⟨hm, oh⟩
                        have HQ1 : Hid (LE S l P A gp hp cur k2 (some (20 - n2)) ∧ Bd A 304) := ⟨hq, hA⟩
                        have HF : Hid (gp k2 = ptr g ∧ l[cur k2]? = some (g, x) ∧ A[cur k2]? = some h ∧ P[cur k2]? = some b ∧ hp k2 = ptr b.h) := ⟨hg1, hl, hA1, hP1, hh1⟩
                        have hdd : 20 - n2 - 1 = 20 - (n2 + 1) := by omega
                        obtain ⟨rs, hrs⟩ : ∃ rs, rs = x.step S := ⟨_, rfl⟩
                        obtain ⟨v, e, S', x'⟩ := rs
                        have hvs : v = x'.st := step_st hrs.symm
                        have csp := HM2.out.1.hg.step (V := fun _ => False) HF.out.2.1 hrs.symm
                        have HK : Hid (∀ u3, ToG w wr m gm S' (l.set (cur k2) (g, x')) G (fun _ => False) u3 → (¬ (v = 3 ∧ h.done = false) → LG w u3 ⟨m, gm, mx, tb, hb, ab, l1, l2⟩ 304 k2 (some (20 - (n2 + 1)))) ∧ (v = 3 → (u3.cell? ⟨hb, k2, none⟩ = some (.pointer (some ⟨b.h, 0, none⟩)) ∧ u3.cell? ⟨tb, k2, none⟩ = some (.pointer (some ⟨g, 0, none⟩))) ∧ (u3.cell? ⟨b.h, 4, none⟩ = some (.bool h.done) ∧ u3.frozen? ⟨b.h, 4, none⟩ = false ∧ u3.cell? ⟨b.h, 1, none⟩ = some (.int .i64 h.ver) ∧ u3.frozen? ⟨b.h, 1, none⟩ = false) ∧ (∀ q : Nat, Calls Try.prog 18 #[ptr g] (u3.drewN q) fun r u' => r = .returned (.int .i64 x'.ver) ∧ u' = u3.drewN q) ∧ (h.done = false → LG w ((u3.setCell ⟨b.h, 4, none⟩ (.bool true)).setCell ⟨b.h, 1, none⟩ (.int .i64 x'.ver)) ⟨m, gm, mx, tb, hb, ab, l1, l2⟩ 304 k2 (some (20 - (n2 + 1)))))) := fun u3 t3 => by
                          have hm3 := HM2.out.1.call t3
                          refine ⟨fun hn => by rw [← hdd]; exact LG.stepNo HM2.out.1 HQ1.out.1 HQ1.out.2 hlt2 HF.out.2.1 HF.out.2.2.1 hrs.symm t3 hn, fun h3 => ?_⟩
                          have o3 := (hm3.hm.one _ b h HF.out.2.2.2.1 HF.out.2.2.1).1
                          have hjj : k2 = 0 ∨ k2 = 1 ∨ k2 = 2 ∨ k2 = 3 := by omega
                          have hh := HF.out.2.2.2.2
                          have hg := HF.out.1
                          refine ⟨⟨?_, ?_⟩, ⟨o3.box.cell 4, o3.box.frozen 4, o3.box.cell 1, o3.box.frozen 1⟩, fun q => ?_, fun hd => ?_⟩
                          · rw [hm3.bh.cell k2]
                            rcases hjj with rfl | rfl | rfl | rfl <;> exact congrArg some hh
                          · rw [hm3.bt.cell k2]
                            rcases hjj with rfl | rfl | rfl | rfl <;> exact congrArg some hg
                          · have hl3 : (l.set (cur k2) (g, x'))[cur k2]? = some (g, x') := by rw [List.getElem?_set, if_pos rfl, if_pos (List.getElem?_eq_some_iff.1 HF.out.2.1).1]
                            have := (hm3.hg.drew q).version hl3
                            rw [if_pos (by rw [← hvs]; exact h3)] at this
                            exact this
                          · have hrs' := hrs.symm
                            rw [h3] at hrs'
                            rw [← hdd]
                            exact LG.stepYes HM2.out.1 HQ1.out.1 HQ1.out.2 hlt2 HF.out.2.1 HF.out.2.2.1 HF.out.2.2.2.1 hrs' t3 hd
                        unfold ptr at csp
                        clear hrs hvs hm hq hA hg1 hl hA1 hP1 hh1 hjj HLG oh hdd
                        go_wp2_with fail
                        refine csp.mono ?_
                        rintro r' u3 ⟨rfl, t3⟩
                        obtain ⟨hn1, hy1⟩ := HK.out u3 t3
                        clear t3 HK csp
                        by_cases hv3 : v = 3
                        · subst hv3
                          obtain ⟨⟨ch3, ct3⟩, ⟨k4, f4, k1, f1⟩, cver, hy2⟩ := hy1 rfl
                          cases hdn : h.done with
                          | true =>
                            rw [hdn] at k4
                            have HJ : Hid (LG w u3 ⟨m, gm, mx, tb, hb, ab, l1, l2⟩ 304 k2 (some (20 - (n2 + 1)))) := hn1 (by rw [hdn]; simp)
                            clear hn1 hy1 hy2 cver
                            go_wp2_with fail
                            go_roundw
                            case rel => exact ⟨n2 + 1, by omega, by simp, HJ.out⟩
                            case measure => simp only [civ]; omega
                          | false =>
                            rw [hdn] at k4
                            have HJ : Hid (LG w ((u3.setCell ⟨b.h, 4, none⟩ (.bool true)).setCell ⟨b.h, 1, none⟩ (.int .i64 x'.ver)) ⟨m, gm, mx, tb, hb, ab, l1, l2⟩ 304 k2 (some (20 - (n2 + 1)))) := hy2 hdn
                            have q1 : ¬ hb = b.h := HM2.out.1.bh.ne HM2.out.2.box (by decide)
                            have q2 : ¬ tb = b.h := HM2.out.1.bt.ne HM2.out.2.box (by decide)
                            have q3 : ¬ b.h = hb := fun e => q1 e.symm
                            have q4 : ¬ b.h = tb := fun e => q2 e.symm
                            clear hn1 hy1 hy2
                            go_upto_region 54 with fail
                            go_region_held3 (fun u => u.cell? ⟨hb, k2, none⟩ = some (.pointer (some ⟨b.h, 0, none⟩)) ∧ u.cell? ⟨tb, k2, none⟩ = some (.pointer (some ⟨g, 0, none⟩))) (go_keep) ((go_at_call 18; (first | refine (cver 0).mono ?_ | refine (cver 1).mono ?_ | refine (cver 2).mono ?_); rintro r' wx ⟨rfl, hwx⟩; subst wx))
                            go_wp2_with fail
                            go_roundw
                            case rel => exact ⟨n2 + 1, by omega, by simp, by first | exact HJ.out | exact HJ.out.drew⟩
                            case measure => simp only [civ]; omega
                        · have hv3' : (v == 3) = false := by simpa using hv3
                          have HJ : Hid (LG w u3 ⟨m, gm, mx, tb, hb, ab, l1, l2⟩ 304 k2 (some (20 - (n2 + 1)))) := hn1 (fun hx => hv3 hx.1)
                          clear hn1 hy1
                          go_wp2_with fail
                          go_roundw
                          case rel => exact ⟨n2 + 1, by omega, by simp, HJ.out⟩
                          case measure => simp only [civ]; omega
                      · have hn0 : 20 - n2 = 0 := by omega
                        have HJ : Hid (LG w wr ⟨m, gm, mx, tb, hb, ab, l1, l2⟩ 304 (k2 + 1) none) := by
                          have := HLG.out
                          rw [hn0] at this
                          exact this.next hlt2
                        clear HLG hn0
                        go_wp2_with fail
                        exact ⟨⟨k2 + 1, by omega, by simp, HJ.out⟩, by simp only [civ]; omega⟩
                · have hk4 : k2 = 4 := by omega
                  have hkk : (k2 : Int) = 4 := by omega
                  obtain ⟨S, l, G, P, A, gp, hp, cur, hm, hq, hA⟩ := HLG.out
                  obtain ⟨wu4, hu4⟩ : ∃ wu4, wu4 = wr := ⟨_, rfl⟩
                  subst hu4
                  obtain ⟨av, ba1, ba2, ba3⟩ := hm.ba
                  obtain ⟨aa, cc, rfl⟩ := ownsRow_slice ba2
                  have n1 : l2 ≠ l1 := HL12.out
                  have nbx : ∀ {y : Nat} {cs : Array Value} {t : TypeId}, Box wu4 y cs t → t ≠ 24 → ¬ y = l2 := fun hb ht e => (hb.ne (hm.bl l2 (.inr rfl)).1 ht) e
                  have HU : Hid (∀ u', Upd (fun y => y = l2) wu4 u' → u'.cell? ⟨mx, 0, none⟩ = some (.pointer (some ⟨m, 0, none⟩)) ∧ u'.cell? ⟨ab, 0, none⟩ = some (.slice aa (hpt P).length cc) ∧ Box u' l1 z6 24 ∧ ∀ i : Nat, i < 6 → Calls Try.prog 19 #[.pointer (some ⟨m, 0, none⟩), .int .i64 (i : Int)] u' fun r u'' => ∃ ver : Int, r = .returned (.tuple #[(S.C.getD i ⟨.int .i64 0, 0, 0⟩).v, .int .i64 ver, .int .i64 0, .int .i64 0]) ∧ ∃ n, u'' = u'.drewN n) := fun u' hu => by
                    have b1 := box_upd hm.bm hu (nbx hm.bm (by decide))
                    have b2 := box_upd ba1 hu (nbx ba1 (by decide))
                    refine ⟨b1.cell 0, b2.cell 0, box_upd (hm.bl l1 (.inl rfl)).1 hu (fun e => n1 e.symm), fun i hi => ?_⟩
                    obtain ⟨r1, r2, r3⟩ := hm.hg.mm.row
                    have hmm := hm.hg.mm.stay (hu.2 m r2.lt (nbx r2 (by decide))) (hu.2 gm (Box.lt r3) (nbx r3 (by decide)))
                    have hl6 : i < S.C.length := by rw [hq.six]; exact hi
                    have hc : S.cell? (i : Int) = some (S.C[i]) := by
                      unfold M.cell?
                      rw [if_pos (by omega)]
                      exact List.getElem?_eq_getElem hl6
                    obtain ⟨X, Ph, V, Pb, a1, a2, a3, a4⟩ := hq.life
                    have ho := a1.free (fun j hj => a3 j (by omega)) hc
                    have hgd : S.C.getD i ⟨.int .i64 0, 0, 0⟩ = S.C[i] := by simp [List.getD, List.getElem?_eq_getElem hl6]
                    refine (C.load_at hmm.is (i : Int)).mono ?_
                    rintro r u'' ⟨rfl, hn⟩
                    have e1 : C.M.load S (i : Int) = (S.C[i].v, S.C[i].ver, S.C[i].own, 0) := by unfold C.M.load; rw [hc]
                    rw [e1, hgd, ho]
                    exact ⟨_, rfl, hn⟩
                  have HVal : Hid (∀ i : Nat, i < 6 → ∃ y : Int, (S.C.getD i ⟨.int .i64 0, 0, 0⟩).v = .int .i64 y) := fun i hi => by
                    have hl6 : i < S.C.length := by rw [hq.six]; exact hi
                    have hc : S.cell? (i : Int) = some (S.C[i]) := by
                      unfold M.cell?
                      rw [if_pos (by omega)]
                      exact List.getElem?_eq_getElem hl6
                    have hgd : S.C.getD i ⟨.int .i64 0, 0, 0⟩ = S.C[i] := by simp [List.getD, List.getElem?_eq_getElem hl6]
                    rw [hgd]
                    exact hm.hg.num _ _ hc
                  have H4 : Hid (LM w wu4 ⟨m, gm, mx, tb, hb, ab, l1, l2⟩ S l G P A gp hp (hpt P) ∧ LE S l P A gp hp cur 4 none ∧ Bd A 304) := ⟨hm, by rw [hk4] at hq; exact hq, hA⟩
                  have H5 : Hid (Box wu4 l2 (valsTo S 0) 24) := (hm.bl l2 (.inr rfl)).1
                  have HBA : Hid (wu4.ownsRow w.heap.size 28 1 (.slice aa (hpt P).length cc) (hpt P).length (hpt P)) := ba2
                  clear hm hq hA ba1 ba2 ba3 nbx n1 HLG
                  simp only [hkk]
                  clear hk4 hkk hlt2 hk2
                  go_wp2_with fail
                  go_loopw [260] (fun i u' => ∃ k : Nat, k ≤ 6 ∧ i = .int .i64 (k : Int) ∧ Box u' l2 (valsTo S k) 24 ∧ Upd (fun y => y = l2) wu4 u' ∧ Below w.heap.size w u') (fun i _ => 6 - (civ i).toNat)
                  case atStart => exact ⟨0, by omega, rfl, H5.out, Upd.refl _ _, H4.out.1.hg.bel⟩
                  case round =>
                    obtain ⟨k5, hk5, rfl, hbx, hup, hbl⟩ := hrel
                    have HX5 : Hid (Box wr l2 (valsTo S k5) 24 ∧ Upd (fun y => y = l2) wu4 wr ∧ Below w.heap.size w wr) := ⟨hbx, hup, hbl⟩
                    obtain ⟨cm, cab, bl1, cld⟩ := HU.out wr hup
                    by_cases hlt5 : k5 < 6
                    · have hki5 : (k5 : Int) < 6 := by omega
                      have cl := cld k5 hlt5
                      have HS : Hid ((valsTo S k5).setIfInBounds k5 (S.C.getD k5 ⟨.int .i64 0, 0, 0⟩).v = valsTo S (k5 + 1)) := valsTo_set S k5 hlt5
                      obtain ⟨yv, hyv⟩ := HVal.out k5 hlt5
                      rw [hyv] at cl HS
                      have hex : ∃ y, wr.cell? ⟨l2, k5, none⟩ = some y := by
                        rw [hbx.cell k5]
                        have : k5 = 0 ∨ k5 = 1 ∨ k5 = 2 ∨ k5 = 3 ∨ k5 = 4 ∨ k5 = 5 := by omega
                        rcases this with rfl | rfl | rfl | rfl | rfl | rfl <;> exact ⟨_, rfl⟩
                      obtain ⟨y0, cy0⟩ := hex
                      have HC2 : Hid (∀ n, (wr.drewN n).cell? ⟨l2, k5, none⟩ = some y0 ∧ (wr.drewN n).frozen? ⟨l2, k5, none⟩ = false) := fun n => ⟨cy0, hbx.frozen k5⟩
                      clear hyv hbx hup hbl cld bl1 cab cy0
                      go_wp2_with fail
                      refine cl.mono ?_
                      rintro r' wx ⟨ver, rfl, nn, hwx⟩
                      obtain ⟨cy, fy⟩ := HC2.out nn
                      rw [← hwx] at cy fy
                      have HN5 : Hid (Box (wx.setCell ⟨l2, k5, none⟩ (.int .i64 yv)) l2 (valsTo S (k5 + 1)) 24 ∧ Upd (fun y => y = l2) wu4 (wx.setCell ⟨l2, k5, none⟩ (.int .i64 yv)) ∧ Below w.heap.size w (wx.setCell ⟨l2, k5, none⟩ (.int .i64 yv))) := by
                        obtain ⟨p1, p2, p3⟩ := HX5.out
                        have p1' : Box wx l2 (valsTo S k5) 24 := by rw [hwx]; exact p1
                        have p3' : Below w.heap.size w wx := by rw [hwx]; exact ⟨p3.os, p3.tape, p3.output, p3.size, p3.block⟩
                        have p2' : Upd (fun y => y = l2) wu4 wx := by rw [hwx]; exact p2
                        refine ⟨?_, p2'.trans (upd_set wx l2 k5 (.int .i64 yv)) (fun _ hy => .inl hy), p3'.grown (grown_store wx l2 k5 (.int .i64 yv)) p3'.size (fun k e => by cases e; exact HLO.out)⟩
                        have := p1'.store k5 (.int .i64 yv)
                        rw [HS.out] at this
                        exact this
                      clear hwx cl
                      go_wp2_with fail
                      go_roundw
                      case rel => exact ⟨k5 + 1, by omega, by go_num, HN5.out.1, HN5.out.2.1, HN5.out.2.2⟩
                      case measure => simp only [civ]; omega
                    · have hk6 : k5 = 6 := by omega
                      have hkk6 : (k5 : Int) = 6 := by omega
                      simp only [hkk6]
                      go_upto_region 64 with fail
                      subst hk6
                      obtain ⟨y0, e0⟩ := HVal.out 0 (by omega)
                      obtain ⟨y1, e1⟩ := HVal.out 1 (by omega)
                      obtain ⟨y2, e2⟩ := HVal.out 2 (by omega)
                      obtain ⟨y3, e3⟩ := HVal.out 3 (by omega)
                      obtain ⟨y4, e4⟩ := HVal.out 4 (by omega)
                      obtain ⟨y5, e5⟩ := HVal.out 5 (by omega)
                      have hv6 : valsTo S 6 = #[.int .i64 y0, .int .i64 y1, .int .i64 y2, .int .i64 y3, .int .i64 y4, .int .i64 y5] := by
                        show #[(S.C.getD 0 ⟨.int .i64 0, 0, 0⟩).v, (S.C.getD 1 ⟨.int .i64 0, 0, 0⟩).v, (S.C.getD 2 ⟨.int .i64 0, 0, 0⟩).v, (S.C.getD 3 ⟨.int .i64 0, 0, 0⟩).v, (S.C.getD 4 ⟨.int .i64 0, 0, 0⟩).v, (S.C.getD 5 ⟨.int .i64 0, 0, 0⟩).v] = _
                        rw [e0, e1, e2, e3, e4, e5]
                      rw [hv6] at hbx
                      have d0 : wr.cell? ⟨l2, 0, none⟩ = some (.int .i64 y0) := hbx.cell 0
                      have d1 : wr.cell? ⟨l2, 1, none⟩ = some (.int .i64 y1) := hbx.cell 1
                      have d2 : wr.cell? ⟨l2, 2, none⟩ = some (.int .i64 y2) := hbx.cell 2
                      have d3 : wr.cell? ⟨l2, 3, none⟩ = some (.int .i64 y3) := hbx.cell 3
                      have d4 : wr.cell? ⟨l2, 4, none⟩ = some (.int .i64 y4) := hbx.cell 4
                      have d5 : wr.cell? ⟨l2, 5, none⟩ = some (.int .i64 y5) := hbx.cell 5
                      have g0 : wr.cell? ⟨l1, 0, none⟩ = some (.int .i64 0) := bl1.cell 0
                      have g1 : wr.cell? ⟨l1, 1, none⟩ = some (.int .i64 0) := bl1.cell 1
                      have g2 : wr.cell? ⟨l1, 2, none⟩ = some (.int .i64 0) := bl1.cell 2
                      have g3 : wr.cell? ⟨l1, 3, none⟩ = some (.int .i64 0) := bl1.cell 3
                      have g4 : wr.cell? ⟨l1, 4, none⟩ = some (.int .i64 0) := bl1.cell 4
                      have g5 : wr.cell? ⟨l1, 5, none⟩ = some (.int .i64 0) := bl1.cell 5
                      have f0 : wr.frozen? ⟨l1, 0, none⟩ = false := bl1.frozen 0
                      have f1 : wr.frozen? ⟨l1, 1, none⟩ = false := bl1.frozen 1
                      have f2 : wr.frozen? ⟨l1, 2, none⟩ = false := bl1.frozen 2
                      have f3 : wr.frozen? ⟨l1, 3, none⟩ = false := bl1.frozen 3
                      have f4 : wr.frozen? ⟨l1, 4, none⟩ = false := bl1.frozen 4
                      have f5 : wr.frozen? ⟨l1, 5, none⟩ = false := bl1.frozen 5
                      have HD : Hid (LDone w (six wr l1 (.int .i64 y0) (.int .i64 y1) (.int .i64 y2) (.int .i64 y3) (.int .i64 y4) (.int .i64 y5)) (.slice aa (hpt P).length cc) S A) := LM.done H4.out.1 H4.out.2.1 H4.out.2.2 HBA.out hup hbl (six_grown wr l1 _ _ _ _ _ _) HLO1.out
                      have bs := six_box bl1 (.int .i64 y0) (.int .i64 y1) (.int .i64 y2) (.int .i64 y3) (.int .i64 y4) (.int .i64 y5)
                      have HBS : Hid (Box (six wr l1 (.int .i64 y0) (.int .i64 y1) (.int .i64 y2) (.int .i64 y3) (.int .i64 y4) (.int .i64 y5)) l1 #[.int .i64 y0, .int .i64 y1, .int .i64 y2, .int .i64 y3, .int .i64 y4, .int .i64 y5] 24) := bs
                      have HV6 : Hid (valsTo S 6 = #[.int .i64 y0, .int .i64 y1, .int .i64 y2, .int .i64 y3, .int .i64 y4, .int .i64 y5]) := hv6
                      clear bs
                      clear hbx hup hbl cld e0 e1 e2 e3 e4 e5 hv6 hlt5 hk5 hkk6 cm bl1
                      go_region_with (fail)
                      all_goals go_wp2_with fail
                      all_goals rw [show (((((wr.setCell ⟨l1, 0, none⟩ (.int .i64 y0)).setCell ⟨l1, 1, none⟩ (.int .i64 y1)).setCell ⟨l1, 2, none⟩ (.int .i64 y2)).setCell ⟨l1, 3, none⟩ (.int .i64 y3)).setCell ⟨l1, 4, none⟩ (.int .i64 y4)).setCell ⟨l1, 5, none⟩ (.int .i64 y5) = six wr l1 (.int .i64 y0) (.int .i64 y1) (.int .i64 y2) (.int .i64 y3) (.int .i64 y4) (.int .i64 y5) from rfl]
                      all_goals
                        obtain ⟨wf, hwf⟩ : ∃ wf, wf = six wr l1 (.int .i64 y0) (.int .i64 y1) (.int .i64 y2) (.int .i64 y3) (.int .i64 y4) (.int .i64 y5) := ⟨_, rfl⟩
                        rw [← hwf] at HD HBS ⊢
                        clear hwf d0 d1 d2 d3 d4 d5 g0 g1 g2 g3 g4 g5 f0 f1 f2 f3 f4 f5
                        have r0 : wf.cell? ⟨l1, 0, none⟩ = some (.int .i64 y0) := HBS.out.cell 0
                        have r1 : wf.cell? ⟨l1, 1, none⟩ = some (.int .i64 y1) := HBS.out.cell 1
                        have r2 : wf.cell? ⟨l1, 2, none⟩ = some (.int .i64 y2) := HBS.out.cell 2
                        have r3 : wf.cell? ⟨l1, 3, none⟩ = some (.int .i64 y3) := HBS.out.cell 3
                        have r4 : wf.cell? ⟨l1, 4, none⟩ = some (.int .i64 y4) := HBS.out.cell 4
                        have r5 : wf.cell? ⟨l1, 5, none⟩ = some (.int .i64 y5) := HBS.out.cell 5
                        have HFF : Hid (LDone w wf (.slice aa (hpt P).length cc) S A ∧ LDone w wf.drew (.slice aa (hpt P).length cc) S A) := ⟨HD.out, HD.out.below ⟨rfl, rfl, rfl, Nat.le_refl _, fun _ _ => rfl⟩⟩
                        clear HD HBS
                        refine bodyPost_ret (v := .tuple #[.slice aa (hpt P).length cc, .agg #[.int .i64 y0, .int .i64 y1, .int .i64 y2, .int .i64 y3, .int .i64 y4, .int .i64 y5], .bool true]) ?_ rfl ⟨_, S, A, by rw [HV6.out], ?_⟩
                        · exact res5 rfl rfl rfl r0 r1 r2 r3 r4 r5
                        · first
                            | exact HFF.out.1
                            | exact HFF.out.2
          · as_aux_lemma =>
              have t1 : ¬ (k : Int) < (N : Int) := by omega
              go_wp2_with fail
              go_loopw [215] (fun i u' => ∃ k : Nat, k ≤ 4 ∧ i = .int .i64 (k : Int) ∧ LG w u' ⟨m, gm, mx, tb, hb, ab, l1, l2⟩ 304 k none) (fun i _ => 4 - (civ i).toNat)
              case atStart => exact ⟨0, by omega, rfl, HG0.out⟩
              case round =>
                obtain ⟨k2, hk2, rfl, hLG⟩ := hrel
                have HLG : Hid (LG w wr ⟨m, gm, mx, tb, hb, ab, l1, l2⟩ 304 k2 none) := hLG
                clear hLG HG0
                by_cases hlt2 : k2 < 4
                · have hki2 : (k2 : Int) < 4 := by omega
                  obtain ⟨S, l, G, P, A, gp, hp, cur, hm, hq, hA⟩ := HLG.out
                  obtain ⟨g, x, h, b, hg1, hl, hA1, hP1, hh1⟩ := hq.at hlt2
                  have hjj : k2 = 0 ∨ k2 = 1 ∨ k2 = 2 ∨ k2 = 3 := by omega
                  have ct : wr.cell? ⟨tb, k2, none⟩ = some (.pointer (some ⟨g, 0, none⟩)) := by
                    rw [hm.bt.cell k2]
                    rcases hjj with rfl | rfl | rfl | rfl <;> exact congrArg some hg1
                  obtain ⟨ra, hra⟩ : ∃ ra, ra = x.abort S := ⟨_, rfl⟩
                  obtain ⟨e, S', x'⟩ := ra
                  have cab := hm.hg.abort (V := fun _ => False) hl hra.symm
                  have HKa : Hid (∀ u3, ToG w wr m gm S' (l.set (cur k2) (g, x')) G (fun _ => False) u3 → (e = 0 ∧ LG w u3 ⟨m, gm, mx, tb, hb, ab, l1, l2⟩ 304 (k2 + 1) none) ∨ (e = 132 ∧ LG w u3 ⟨m, gm, mx, tb, hb, ab, l1, l2⟩ 304 k2 (some 20))) := fun u3 t => LG.abort hm hq hA hlt2 hl hra.symm t
                  unfold ptr at cab
                  clear hra hm hq hA hg1 hl hA1 hP1 hh1 hjj HLG
                  go_wp2_with fail
                  refine cab.mono ?_
                  rintro r' u3 ⟨rfl, t3⟩
                  rcases HKa.out u3 t3 with ⟨rfl, hn⟩ | ⟨rfl, hn⟩
                  · have HN : Hid (LG w u3 ⟨m, gm, mx, tb, hb, ab, l1, l2⟩ 304 (k2 + 1) none) := hn
                    clear hn t3 HKa cab
                    go_wp2_with fail
                    go_roundw
                    case rel => exact ⟨k2 + 1, by omega, by simp, HN.out⟩
                    case measure => simp only [civ]; omega
                  · have HN : Hid (LG w u3 ⟨m, gm, mx, tb, hb, ab, l1, l2⟩ 304 k2 (some 20)) := hn
                    clear hn t3 HKa cab ct
                    go_wp2_with fail
                    obtain ⟨u3', hu3'⟩ : ∃ u3', u3' = u3 := ⟨_, rfl⟩
                    subst hu3'
                    go_loopw [25] (fun i u' => ∃ n : Nat, n ≤ 20 ∧ i = .int .i64 (n : Int) ∧ LG w u' ⟨m, gm, mx, tb, hb, ab, l1, l2⟩ 304 k2 (some (20 - n))) (fun i _ => 20 - (civ i).toNat)
                    case atStart => exact ⟨0, by omega, rfl, HN.out⟩
                    case round =>
                      obtain ⟨n2, hn2, rfl, hLG⟩ := hrel
                      have HLG : Hid (LG w wr ⟨m, gm, mx, tb, hb, ab, l1, l2⟩ 304 k2 (some (20 - n2))) := hLG
                      clear hLG HN
                      by_cases hlt3 : n2 < 20
                      · have hni : (n2 : Int) < 20 := by omega
                        obtain ⟨S, l, G, P, A, gp, hp, cur, hm, hq, hA⟩ := HLG.out
                        obtain ⟨g, x, h, b, hg1, hl, hA1, hP1, hh1⟩ := hq.at hlt2
                        obtain ⟨oh, _⟩ := hm.hm.one _ b h hP1 hA1
                        have hjj : k2 = 0 ∨ k2 = 1 ∨ k2 = 2 ∨ k2 = 3 := by omega
                        have ct : wr.cell? ⟨tb, k2, none⟩ = some (.pointer (some ⟨g, 0, none⟩)) := by
                          rw [hm.bt.cell k2]
                          rcases hjj with rfl | rfl | rfl | rfl <;> exact congrArg some hg1
                        have HM2 : Hid (LM w wr ⟨m, gm, mx, tb, hb, ab, l1, l2⟩ S l G P A gp hp (hpt P) ∧ OneH wr w.heap.size b h) := ⟨hm, oh⟩
                        have HQ1 : Hid (LE S l P A gp hp cur k2 (some (20 - n2)) ∧ Bd A 304) := ⟨hq, hA⟩
                        have HF : Hid (gp k2 = ptr g ∧ l[cur k2]? = some (g, x) ∧ A[cur k2]? = some h ∧ P[cur k2]? = some b ∧ hp k2 = ptr b.h) := ⟨hg1, hl, hA1, hP1, hh1⟩
                        have hdd : 20 - n2 - 1 = 20 - (n2 + 1) := by omega
                        obtain ⟨rs, hrs⟩ : ∃ rs, rs = x.step S := ⟨_, rfl⟩
                        obtain ⟨v, e, S', x'⟩ := rs
                        have hvs : v = x'.st := step_st hrs.symm
                        have csp := HM2.out.1.hg.step (V := fun _ => False) HF.out.2.1 hrs.symm
                        have HK : Hid (∀ u3, ToG w wr m gm S' (l.set (cur k2) (g, x')) G (fun _ => False) u3 → (¬ (v = 3 ∧ h.done = false) → LG w u3 ⟨m, gm, mx, tb, hb, ab, l1, l2⟩ 304 k2 (some (20 - (n2 + 1)))) ∧ (v = 3 → (u3.cell? ⟨hb, k2, none⟩ = some (.pointer (some ⟨b.h, 0, none⟩)) ∧ u3.cell? ⟨tb, k2, none⟩ = some (.pointer (some ⟨g, 0, none⟩))) ∧ (u3.cell? ⟨b.h, 4, none⟩ = some (.bool h.done) ∧ u3.frozen? ⟨b.h, 4, none⟩ = false ∧ u3.cell? ⟨b.h, 1, none⟩ = some (.int .i64 h.ver) ∧ u3.frozen? ⟨b.h, 1, none⟩ = false) ∧ (∀ q : Nat, Calls Try.prog 18 #[ptr g] (u3.drewN q) fun r u' => r = .returned (.int .i64 x'.ver) ∧ u' = u3.drewN q) ∧ (h.done = false → LG w ((u3.setCell ⟨b.h, 4, none⟩ (.bool true)).setCell ⟨b.h, 1, none⟩ (.int .i64 x'.ver)) ⟨m, gm, mx, tb, hb, ab, l1, l2⟩ 304 k2 (some (20 - (n2 + 1)))))) := fun u3 t3 => by
                          have hm3 := HM2.out.1.call t3
                          refine ⟨fun hn => by rw [← hdd]; exact LG.stepNo HM2.out.1 HQ1.out.1 HQ1.out.2 hlt2 HF.out.2.1 HF.out.2.2.1 hrs.symm t3 hn, fun h3 => ?_⟩
                          have o3 := (hm3.hm.one _ b h HF.out.2.2.2.1 HF.out.2.2.1).1
                          have hjj : k2 = 0 ∨ k2 = 1 ∨ k2 = 2 ∨ k2 = 3 := by omega
                          have hh := HF.out.2.2.2.2
                          have hg := HF.out.1
                          refine ⟨⟨?_, ?_⟩, ⟨o3.box.cell 4, o3.box.frozen 4, o3.box.cell 1, o3.box.frozen 1⟩, fun q => ?_, fun hd => ?_⟩
                          · rw [hm3.bh.cell k2]
                            rcases hjj with rfl | rfl | rfl | rfl <;> exact congrArg some hh
                          · rw [hm3.bt.cell k2]
                            rcases hjj with rfl | rfl | rfl | rfl <;> exact congrArg some hg
                          · have hl3 : (l.set (cur k2) (g, x'))[cur k2]? = some (g, x') := by rw [List.getElem?_set, if_pos rfl, if_pos (List.getElem?_eq_some_iff.1 HF.out.2.1).1]
                            have := (hm3.hg.drew q).version hl3
                            rw [if_pos (by rw [← hvs]; exact h3)] at this
                            exact this
                          · have hrs' := hrs.symm
                            rw [h3] at hrs'
                            rw [← hdd]
                            exact LG.stepYes HM2.out.1 HQ1.out.1 HQ1.out.2 hlt2 HF.out.2.1 HF.out.2.2.1 HF.out.2.2.2.1 hrs' t3 hd
                        unfold ptr at csp
                        clear hrs hvs hm hq hA hg1 hl hA1 hP1 hh1 hjj HLG oh hdd
                        go_wp2_with fail
                        refine csp.mono ?_
                        rintro r' u3 ⟨rfl, t3⟩
                        obtain ⟨hn1, hy1⟩ := HK.out u3 t3
                        clear t3 HK csp
                        by_cases hv3 : v = 3
                        · subst hv3
                          obtain ⟨⟨ch3, ct3⟩, ⟨k4, f4, k1, f1⟩, cver, hy2⟩ := hy1 rfl
                          cases hdn : h.done with
                          | true =>
                            rw [hdn] at k4
                            have HJ : Hid (LG w u3 ⟨m, gm, mx, tb, hb, ab, l1, l2⟩ 304 k2 (some (20 - (n2 + 1)))) := hn1 (by rw [hdn]; simp)
                            clear hn1 hy1 hy2 cver
                            go_wp2_with fail
                            go_roundw
                            case rel => exact ⟨n2 + 1, by omega, by simp, HJ.out⟩
                            case measure => simp only [civ]; omega
                          | false =>
                            rw [hdn] at k4
                            have HJ : Hid (LG w ((u3.setCell ⟨b.h, 4, none⟩ (.bool true)).setCell ⟨b.h, 1, none⟩ (.int .i64 x'.ver)) ⟨m, gm, mx, tb, hb, ab, l1, l2⟩ 304 k2 (some (20 - (n2 + 1)))) := hy2 hdn
                            have q1 : ¬ hb = b.h := HM2.out.1.bh.ne HM2.out.2.box (by decide)
                            have q2 : ¬ tb = b.h := HM2.out.1.bt.ne HM2.out.2.box (by decide)
                            have q3 : ¬ b.h = hb := fun e => q1 e.symm
                            have q4 : ¬ b.h = tb := fun e => q2 e.symm
                            clear hn1 hy1 hy2
                            go_upto_region 54 with fail
                            go_region_held3 (fun u => u.cell? ⟨hb, k2, none⟩ = some (.pointer (some ⟨b.h, 0, none⟩)) ∧ u.cell? ⟨tb, k2, none⟩ = some (.pointer (some ⟨g, 0, none⟩))) (go_keep) ((go_at_call 18; (first | refine (cver 0).mono ?_ | refine (cver 1).mono ?_ | refine (cver 2).mono ?_); rintro r' wx ⟨rfl, hwx⟩; subst wx))
                            go_wp2_with fail
                            go_roundw
                            case rel => exact ⟨n2 + 1, by omega, by simp, by first | exact HJ.out | exact HJ.out.drew⟩
                            case measure => simp only [civ]; omega
                        · have hv3' : (v == 3) = false := by simpa using hv3
                          have HJ : Hid (LG w u3 ⟨m, gm, mx, tb, hb, ab, l1, l2⟩ 304 k2 (some (20 - (n2 + 1)))) := hn1 (fun hx => hv3 hx.1)
                          clear hn1 hy1
                          go_wp2_with fail
                          go_roundw
                          case rel => exact ⟨n2 + 1, by omega, by simp, HJ.out⟩
                          case measure => simp only [civ]; omega
                      · have hn0 : 20 - n2 = 0 := by omega
                        have HJ : Hid (LG w wr ⟨m, gm, mx, tb, hb, ab, l1, l2⟩ 304 (k2 + 1) none) := by
                          have := HLG.out
                          rw [hn0] at this
                          exact this.next hlt2
                        clear HLG hn0
                        go_wp2_with fail
                        exact ⟨⟨k2 + 1, by omega, by simp, HJ.out⟩, by simp only [civ]; omega⟩
                · have hk4 : k2 = 4 := by omega
                  have hkk : (k2 : Int) = 4 := by omega
                  obtain ⟨S, l, G, P, A, gp, hp, cur, hm, hq, hA⟩ := HLG.out
                  obtain ⟨wu4, hu4⟩ : ∃ wu4, wu4 = wr := ⟨_, rfl⟩
                  subst hu4
                  obtain ⟨av, ba1, ba2, ba3⟩ := hm.ba
                  obtain ⟨aa, cc, rfl⟩ := ownsRow_slice ba2
                  have n1 : l2 ≠ l1 := HL12.out
                  have nbx : ∀ {y : Nat} {cs : Array Value} {t : TypeId}, Box wu4 y cs t → t ≠ 24 → ¬ y = l2 := fun hb ht e => (hb.ne (hm.bl l2 (.inr rfl)).1 ht) e
                  have HU : Hid (∀ u', Upd (fun y => y = l2) wu4 u' → u'.cell? ⟨mx, 0, none⟩ = some (.pointer (some ⟨m, 0, none⟩)) ∧ u'.cell? ⟨ab, 0, none⟩ = some (.slice aa (hpt P).length cc) ∧ Box u' l1 z6 24 ∧ ∀ i : Nat, i < 6 → Calls Try.prog 19 #[.pointer (some ⟨m, 0, none⟩), .int .i64 (i : Int)] u' fun r u'' => ∃ ver : Int, r = .returned (.tuple #[(S.C.getD i ⟨.int .i64 0, 0, 0⟩).v, .int .i64 ver, .int .i64 0, .int .i64 0]) ∧ ∃ n, u'' = u'.drewN n) := fun u' hu => by
                    have b1 := box_upd hm.bm hu (nbx hm.bm (by decide))
                    have b2 := box_upd ba1 hu (nbx ba1 (by decide))
                    refine ⟨b1.cell 0, b2.cell 0, box_upd (hm.bl l1 (.inl rfl)).1 hu (fun e => n1 e.symm), fun i hi => ?_⟩
                    obtain ⟨r1, r2, r3⟩ := hm.hg.mm.row
                    have hmm := hm.hg.mm.stay (hu.2 m r2.lt (nbx r2 (by decide))) (hu.2 gm (Box.lt r3) (nbx r3 (by decide)))
                    have hl6 : i < S.C.length := by rw [hq.six]; exact hi
                    have hc : S.cell? (i : Int) = some (S.C[i]) := by
                      unfold M.cell?
                      rw [if_pos (by omega)]
                      exact List.getElem?_eq_getElem hl6
                    obtain ⟨X, Ph, V, Pb, a1, a2, a3, a4⟩ := hq.life
                    have ho := a1.free (fun j hj => a3 j (by omega)) hc
                    have hgd : S.C.getD i ⟨.int .i64 0, 0, 0⟩ = S.C[i] := by simp [List.getD, List.getElem?_eq_getElem hl6]
                    refine (C.load_at hmm.is (i : Int)).mono ?_
                    rintro r u'' ⟨rfl, hn⟩
                    have e1 : C.M.load S (i : Int) = (S.C[i].v, S.C[i].ver, S.C[i].own, 0) := by unfold C.M.load; rw [hc]
                    rw [e1, hgd, ho]
                    exact ⟨_, rfl, hn⟩
                  have HVal : Hid (∀ i : Nat, i < 6 → ∃ y : Int, (S.C.getD i ⟨.int .i64 0, 0, 0⟩).v = .int .i64 y) := fun i hi => by
                    have hl6 : i < S.C.length := by rw [hq.six]; exact hi
                    have hc : S.cell? (i : Int) = some (S.C[i]) := by
                      unfold M.cell?
                      rw [if_pos (by omega)]
                      exact List.getElem?_eq_getElem hl6
                    have hgd : S.C.getD i ⟨.int .i64 0, 0, 0⟩ = S.C[i] := by simp [List.getD, List.getElem?_eq_getElem hl6]
                    rw [hgd]
                    exact hm.hg.num _ _ hc
                  have H4 : Hid (LM w wu4 ⟨m, gm, mx, tb, hb, ab, l1, l2⟩ S l G P A gp hp (hpt P) ∧ LE S l P A gp hp cur 4 none ∧ Bd A 304) := ⟨hm, by rw [hk4] at hq; exact hq, hA⟩
                  have H5 : Hid (Box wu4 l2 (valsTo S 0) 24) := (hm.bl l2 (.inr rfl)).1
                  have HBA : Hid (wu4.ownsRow w.heap.size 28 1 (.slice aa (hpt P).length cc) (hpt P).length (hpt P)) := ba2
                  clear hm hq hA ba1 ba2 ba3 nbx n1 HLG
                  simp only [hkk]
                  clear hk4 hkk hlt2 hk2
                  go_wp2_with fail
                  go_loopw [260] (fun i u' => ∃ k : Nat, k ≤ 6 ∧ i = .int .i64 (k : Int) ∧ Box u' l2 (valsTo S k) 24 ∧ Upd (fun y => y = l2) wu4 u' ∧ Below w.heap.size w u') (fun i _ => 6 - (civ i).toNat)
                  case atStart => exact ⟨0, by omega, rfl, H5.out, Upd.refl _ _, H4.out.1.hg.bel⟩
                  case round =>
                    obtain ⟨k5, hk5, rfl, hbx, hup, hbl⟩ := hrel
                    have HX5 : Hid (Box wr l2 (valsTo S k5) 24 ∧ Upd (fun y => y = l2) wu4 wr ∧ Below w.heap.size w wr) := ⟨hbx, hup, hbl⟩
                    obtain ⟨cm, cab, bl1, cld⟩ := HU.out wr hup
                    by_cases hlt5 : k5 < 6
                    · have hki5 : (k5 : Int) < 6 := by omega
                      have cl := cld k5 hlt5
                      have HS : Hid ((valsTo S k5).setIfInBounds k5 (S.C.getD k5 ⟨.int .i64 0, 0, 0⟩).v = valsTo S (k5 + 1)) := valsTo_set S k5 hlt5
                      obtain ⟨yv, hyv⟩ := HVal.out k5 hlt5
                      rw [hyv] at cl HS
                      have hex : ∃ y, wr.cell? ⟨l2, k5, none⟩ = some y := by
                        rw [hbx.cell k5]
                        have : k5 = 0 ∨ k5 = 1 ∨ k5 = 2 ∨ k5 = 3 ∨ k5 = 4 ∨ k5 = 5 := by omega
                        rcases this with rfl | rfl | rfl | rfl | rfl | rfl <;> exact ⟨_, rfl⟩
                      obtain ⟨y0, cy0⟩ := hex
                      have HC2 : Hid (∀ n, (wr.drewN n).cell? ⟨l2, k5, none⟩ = some y0 ∧ (wr.drewN n).frozen? ⟨l2, k5, none⟩ = false) := fun n => ⟨cy0, hbx.frozen k5⟩
                      clear hyv hbx hup hbl cld bl1 cab cy0
                      go_wp2_with fail
                      refine cl.mono ?_
                      rintro r' wx ⟨ver, rfl, nn, hwx⟩
                      obtain ⟨cy, fy⟩ := HC2.out nn
                      rw [← hwx] at cy fy
                      have HN5 : Hid (Box (wx.setCell ⟨l2, k5, none⟩ (.int .i64 yv)) l2 (valsTo S (k5 + 1)) 24 ∧ Upd (fun y => y = l2) wu4 (wx.setCell ⟨l2, k5, none⟩ (.int .i64 yv)) ∧ Below w.heap.size w (wx.setCell ⟨l2, k5, none⟩ (.int .i64 yv))) := by
                        obtain ⟨p1, p2, p3⟩ := HX5.out
                        have p1' : Box wx l2 (valsTo S k5) 24 := by rw [hwx]; exact p1
                        have p3' : Below w.heap.size w wx := by rw [hwx]; exact ⟨p3.os, p3.tape, p3.output, p3.size, p3.block⟩
                        have p2' : Upd (fun y => y = l2) wu4 wx := by rw [hwx]; exact p2
                        refine ⟨?_, p2'.trans (upd_set wx l2 k5 (.int .i64 yv)) (fun _ hy => .inl hy), p3'.grown (grown_store wx l2 k5 (.int .i64 yv)) p3'.size (fun k e => by cases e; exact HLO.out)⟩
                        have := p1'.store k5 (.int .i64 yv)
                        rw [HS.out] at this
                        exact this
                      clear hwx cl
                      go_wp2_with fail
                      go_roundw
                      case rel => exact ⟨k5 + 1, by omega, by go_num, HN5.out.1, HN5.out.2.1, HN5.out.2.2⟩
                      case measure => simp only [civ]; omega
                    · have hk6 : k5 = 6 := by omega
                      have hkk6 : (k5 : Int) = 6 := by omega
                      simp only [hkk6]
                      go_upto_region 64 with fail
                      subst hk6
                      obtain ⟨y0, e0⟩ := HVal.out 0 (by omega)
                      obtain ⟨y1, e1⟩ := HVal.out 1 (by omega)
                      obtain ⟨y2, e2⟩ := HVal.out 2 (by omega)
                      obtain ⟨y3, e3⟩ := HVal.out 3 (by omega)
                      obtain ⟨y4, e4⟩ := HVal.out 4 (by omega)
                      obtain ⟨y5, e5⟩ := HVal.out 5 (by omega)
                      have hv6 : valsTo S 6 = #[.int .i64 y0, .int .i64 y1, .int .i64 y2, .int .i64 y3, .int .i64 y4, .int .i64 y5] := by
                        show #[(S.C.getD 0 ⟨.int .i64 0, 0, 0⟩).v, (S.C.getD 1 ⟨.int .i64 0, 0, 0⟩).v, (S.C.getD 2 ⟨.int .i64 0, 0, 0⟩).v, (S.C.getD 3 ⟨.int .i64 0, 0, 0⟩).v, (S.C.getD 4 ⟨.int .i64 0, 0, 0⟩).v, (S.C.getD 5 ⟨.int .i64 0, 0, 0⟩).v] = _
                        rw [e0, e1, e2, e3, e4, e5]
                      rw [hv6] at hbx
                      have d0 : wr.cell? ⟨l2, 0, none⟩ = some (.int .i64 y0) := hbx.cell 0
                      have d1 : wr.cell? ⟨l2, 1, none⟩ = some (.int .i64 y1) := hbx.cell 1
                      have d2 : wr.cell? ⟨l2, 2, none⟩ = some (.int .i64 y2) := hbx.cell 2
                      have d3 : wr.cell? ⟨l2, 3, none⟩ = some (.int .i64 y3) := hbx.cell 3
                      have d4 : wr.cell? ⟨l2, 4, none⟩ = some (.int .i64 y4) := hbx.cell 4
                      have d5 : wr.cell? ⟨l2, 5, none⟩ = some (.int .i64 y5) := hbx.cell 5
                      have g0 : wr.cell? ⟨l1, 0, none⟩ = some (.int .i64 0) := bl1.cell 0
                      have g1 : wr.cell? ⟨l1, 1, none⟩ = some (.int .i64 0) := bl1.cell 1
                      have g2 : wr.cell? ⟨l1, 2, none⟩ = some (.int .i64 0) := bl1.cell 2
                      have g3 : wr.cell? ⟨l1, 3, none⟩ = some (.int .i64 0) := bl1.cell 3
                      have g4 : wr.cell? ⟨l1, 4, none⟩ = some (.int .i64 0) := bl1.cell 4
                      have g5 : wr.cell? ⟨l1, 5, none⟩ = some (.int .i64 0) := bl1.cell 5
                      have f0 : wr.frozen? ⟨l1, 0, none⟩ = false := bl1.frozen 0
                      have f1 : wr.frozen? ⟨l1, 1, none⟩ = false := bl1.frozen 1
                      have f2 : wr.frozen? ⟨l1, 2, none⟩ = false := bl1.frozen 2
                      have f3 : wr.frozen? ⟨l1, 3, none⟩ = false := bl1.frozen 3
                      have f4 : wr.frozen? ⟨l1, 4, none⟩ = false := bl1.frozen 4
                      have f5 : wr.frozen? ⟨l1, 5, none⟩ = false := bl1.frozen 5
                      have HD : Hid (LDone w (six wr l1 (.int .i64 y0) (.int .i64 y1) (.int .i64 y2) (.int .i64 y3) (.int .i64 y4) (.int .i64 y5)) (.slice aa (hpt P).length cc) S A) := LM.done H4.out.1 H4.out.2.1 H4.out.2.2 HBA.out hup hbl (six_grown wr l1 _ _ _ _ _ _) HLO1.out
                      have bs := six_box bl1 (.int .i64 y0) (.int .i64 y1) (.int .i64 y2) (.int .i64 y3) (.int .i64 y4) (.int .i64 y5)
                      have HBS : Hid (Box (six wr l1 (.int .i64 y0) (.int .i64 y1) (.int .i64 y2) (.int .i64 y3) (.int .i64 y4) (.int .i64 y5)) l1 #[.int .i64 y0, .int .i64 y1, .int .i64 y2, .int .i64 y3, .int .i64 y4, .int .i64 y5] 24) := bs
                      have HV6 : Hid (valsTo S 6 = #[.int .i64 y0, .int .i64 y1, .int .i64 y2, .int .i64 y3, .int .i64 y4, .int .i64 y5]) := hv6
                      clear bs
                      clear hbx hup hbl cld e0 e1 e2 e3 e4 e5 hv6 hlt5 hk5 hkk6 cm bl1
                      go_region_with (fail)
                      all_goals go_wp2_with fail
                      all_goals rw [show (((((wr.setCell ⟨l1, 0, none⟩ (.int .i64 y0)).setCell ⟨l1, 1, none⟩ (.int .i64 y1)).setCell ⟨l1, 2, none⟩ (.int .i64 y2)).setCell ⟨l1, 3, none⟩ (.int .i64 y3)).setCell ⟨l1, 4, none⟩ (.int .i64 y4)).setCell ⟨l1, 5, none⟩ (.int .i64 y5) = six wr l1 (.int .i64 y0) (.int .i64 y1) (.int .i64 y2) (.int .i64 y3) (.int .i64 y4) (.int .i64 y5) from rfl]
                      all_goals
                        obtain ⟨wf, hwf⟩ : ∃ wf, wf = six wr l1 (.int .i64 y0) (.int .i64 y1) (.int .i64 y2) (.int .i64 y3) (.int .i64 y4) (.int .i64 y5) := ⟨_, rfl⟩
                        rw [← hwf] at HD HBS ⊢
                        clear hwf d0 d1 d2 d3 d4 d5 g0 g1 g2 g3 g4 g5 f0 f1 f2 f3 f4 f5
                        have r0 : wf.cell? ⟨l1, 0, none⟩ = some (.int .i64 y0) := HBS.out.cell 0
                        have r1 : wf.cell? ⟨l1, 1, none⟩ = some (.int .i64 y1) := HBS.out.cell 1
                        have r2 : wf.cell? ⟨l1, 2, none⟩ = some (.int .i64 y2) := HBS.out.cell 2
                        have r3 : wf.cell? ⟨l1, 3, none⟩ = some (.int .i64 y3) := HBS.out.cell 3
                        have r4 : wf.cell? ⟨l1, 4, none⟩ = some (.int .i64 y4) := HBS.out.cell 4
                        have r5 : wf.cell? ⟨l1, 5, none⟩ = some (.int .i64 y5) := HBS.out.cell 5
                        have HFF : Hid (LDone w wf (.slice aa (hpt P).length cc) S A ∧ LDone w wf.drew (.slice aa (hpt P).length cc) S A) := ⟨HD.out, HD.out.below ⟨rfl, rfl, rfl, Nat.le_refl _, fun _ _ => rfl⟩⟩
                        clear HD HBS
                        refine bodyPost_ret (v := .tuple #[.slice aa (hpt P).length cc, .agg #[.int .i64 y0, .int .i64 y1, .int .i64 y2, .int .i64 y3, .int .i64 y4, .int .i64 y5], .bool true]) ?_ rfl ⟨_, S, A, by rw [HV6.out], ?_⟩
                        · exact res5 rfl rfl rfl r0 r1 r2 r3 r4 r5
                        · first
                            | exact HFF.out.1
                            | exact HFF.out.2
end Go.Proofs.Ytafiopjgegmfoaa.T
