/-
  Merging in place: one ahead of many.
-/
import Derived.Test.YtlbnilendcelkaaRot
namespace Go.Proofs.Ytlbnilendcelkaa
open Go.RowKit
namespace I
set_option maxRecDepth 100000 in
set_option maxHeartbeats 8000000 in
theorem symOne_at {w0 w : World} {g cap N c : Nat} (P V S : List (En Int)) (x : En Int) (h : Srt eI 33 w0 w g cap (P ++ [x] ++ V ++ S)) (hN : N = (P ++ [x] ++ V ++ S).length) (hn : N ≤ 2000) (a m b : Nat) (hT : Two En.ver P [x] V S a m b) :
    Calls Try.prog 47 #[.slice (some ⟨g, 0, none⟩) N c, .int .i64 (a : Int), .int .i64 (m : Int), .int .i64 (b : Int), .func (.func 28) #[] #[]] w fun r w' => r = .returned (.tuple #[]) ∧ Srt eI 33 w0 w' g cap (P ++ mrg En.ver [x] V ++ S) := by
  have hm := hT.hm
  simp at hm
  have hmb := hT.up.2
  have hbN : b ≤ N := hN ▸ hT.len
  have HT : Hid (Two En.ver P [x] V S a m b) := hT
  have HX : Hid ((P ++ [x] ++ V ++ S)[a]? = some x) := by unfold Hid; rw [hT.getU _ _ (Nat.le_refl _) (by omega)]; simp
  have HF := hid (hT.fal1 (k := En.ver))
  obtain ⟨L, hL⟩ : ∃ L, L = P ++ [x] ++ V ++ S := ⟨_, rfl⟩
  have HL : Hid (L = P ++ [x] ++ V ++ S) := hL
  rw [← hL] at h hN HX HF
  have HS := hid h
  have HN : Hid (N = L.length) := hN
  have r0 : IntKind.i64.wrap ((m : Int) - (a : Int)) = 1 := by rw [IntKind.wrap_i64]; omega
  obtain ⟨xv, xo, xa⟩ := x
  have HM := hid hm
  have ham : a < m := by omega
  clear hT h hL hN hm
  go_enter Try.func47, Try.ntmps47
  go_wp2_with fail
  go_loopw [10, 11] (fun v v' u => ∃ i j : Nat, i ≤ j ∧ j ≤ b ∧ m ≤ i ∧ v = .int .i64 (i : Int) ∧ v' = .int .i64 (j : Int) ∧ Hid (Fnd (fun c => ∀ y, L[c]? = some y → En.ver y < xv) m b i j ∧ Srt eI 33 w0 u g cap L)) (fun v v' _ => (intOf v').toNat - (intOf v).toNat)
  case atStart => exact ⟨m, b, by omega, Nat.le_refl _, Nat.le_refl _, rfl, rfl, Fnd.start (by omega), HS.out⟩
  case round =>
    obtain ⟨i, j, hij, hjb, hmi, rfl, rfl, hrel⟩ := hrel
    by_cases hlt : i < j
    · have hki : (i : Int) < (j : Int) := by omega
      have r1 : IntKind.i64.wrap ((i : Int) + (j : Int)) = (i : Int) + (j : Int) := by rw [IntKind.wrap_i64]; omega
      obtain ⟨h, hh⟩ : ∃ h, h = (i + j) / 2 := ⟨_, rfl⟩
      have hih : i ≤ h := by omega
      have hhj : h < j := by omega
      have r2 : ((i : Int) + (j : Int)) / 2 = (h : Int) := by omega
      have r3 : ((i : Int) + (j : Int)) >>> 1 = (h : Int) := by rw [Int.shiftRight_eq_div_pow]; omega
      obtain ⟨hF, hSr⟩ := hrel.out
      obtain ⟨⟨hv, ho, ha⟩, hL1⟩ := get_ex (l := L) (c := h) (by have := HN.out; omega)
      have hL2 := HX.out
      have HU : Hid (En.ver (⟨hv, ho, ha⟩ : En Int) < xv → Fnd (fun c => ∀ y, L[c]? = some y → En.ver y < xv) m b (h + 1) j) := fun hlt => hF.hi HF.out hih hhj (fun y hy => by rw [hL1] at hy; cases hy; exact hlt)
      have HD : Hid (¬ En.ver (⟨hv, ho, ha⟩ : En Int) < xv → Fnd (fun c => ∀ y, L[c]? = some y → En.ver y < xv) m b i h) := fun hlt => hF.lo HF.out hih hhj (fun hp => hlt (hp _ hL1))
      clear hrel hF hh
      have c0 : ∀ u, Calls Try.prog 28 #[.agg #[.int .i64 hv, .int .i64 ho, .int .i64 ha], .agg #[.int .i64 xv, .int .i64 xo, .int .i64 xa]] u fun r w' => r = .returned (.int .i64 (cmpI hv xv)) ∧ Below u.heap.size u w' := fun u => I.cmp_at u ⟨hv, ho, ha⟩ ⟨xv, xo, xa⟩
      by_cases hc : hv < xv
      · have HU' := hid (HU.out hc)
        have hcc := (cmpI_neg hv xv).2 hc
        generalize cmpI hv xv = cc at c0 hcc
        clear HU HD hc
        go_wp2_with fail
        obtain ⟨C, hC⟩ : ∃ C : World → Prop, C = fun u => Srt eI 33 w0 u g cap L := ⟨_, rfl⟩
        have keepC : ∀ x : Of C, ∀ w', Below x.u.heap.size x.u w' → C w' := fun x w' hb => by have := x.ok; subst hC; exact this.below hb
        have hfacts : ∀ x : Of C, Srt eI 33 w0 x.u g cap L := fun x => by have := x.ok; subst hC; exact this
        have a0 : ∀ x : Of C, x.u.cell? ⟨g, h * 3, none⟩ = some (.int .i64 hv) := fun x => ((hfacts x).lay.get hL1).1
        have a1 : ∀ x : Of C, x.u.cell? ⟨g, h * 3 + 1, none⟩ = some (.int .i64 ho) := fun x => ((hfacts x).lay.get hL1).2.1
        have a2 : ∀ x : Of C, x.u.cell? ⟨g, h * 3 + 2, none⟩ = some (.int .i64 ha) := fun x => ((hfacts x).lay.get hL1).2.2
        have b0 : ∀ x : Of C, x.u.cell? ⟨g, a * 3, none⟩ = some (.int .i64 xv) := fun x => ((hfacts x).lay.get hL2).1
        have b1 : ∀ x : Of C, x.u.cell? ⟨g, a * 3 + 1, none⟩ = some (.int .i64 xo) := fun x => ((hfacts x).lay.get hL2).2.1
        have b2 : ∀ x : Of C, x.u.cell? ⟨g, a * 3 + 2, none⟩ = some (.int .i64 xa) := fun x => ((hfacts x).lay.get hL2).2.2
        have HK : Hid (∀ x : Of C, Srt eI 33 w0 x.u g cap L) := hfacts
        haveI hne : Nonempty (Of C) := Of.some (w := wr) (by subst hC; exact hSr)
        have hC0 : C wr.drew := by subst hC; exact hSr.drew 1
        clear hC hfacts hSr hL1 hL2
        refine wp_region_class C (by kernel_rfl) (by kernel_rfl) hC0 ?_
        clear hC0
        repeat (go_big_quiet_step (first | (go_at_call 28; exact Of.call _ (c0 _) (keepC _))))
        refine wpQuiet_nil ?_
        rintro _ ⟨x, rfl⟩
        obtain ⟨wy, hwy⟩ : ∃ wy, wy = x.u := ⟨_, rfl⟩
        have hSy : Srt eI 33 w0 wy g cap L := hwy ▸ HK.out x
        rw [← hwy]
        clear hwy HK a0 a1 a2 b0 b1 b2 keepC x hne C
        have hSy := hid hSy
        go_wp2_with fail
        go_roundw
        case rel => exact ⟨h + 1, j, by omega, hjb, by omega, by simp, rfl, HU'.out, hSy.out⟩
        case measure => simp only [intOf]; omega
      · have HD' := hid (HD.out hc)
        have hcc : ¬ cmpI hv xv < 0 := fun e => hc ((cmpI_neg hv xv).1 e)
        generalize cmpI hv xv = cc at c0 hcc
        clear HU HD hc
        go_wp2_with fail
        obtain ⟨C, hC⟩ : ∃ C : World → Prop, C = fun u => Srt eI 33 w0 u g cap L := ⟨_, rfl⟩
        have keepC : ∀ x : Of C, ∀ w', Below x.u.heap.size x.u w' → C w' := fun x w' hb => by have := x.ok; subst hC; exact this.below hb
        have hfacts : ∀ x : Of C, Srt eI 33 w0 x.u g cap L := fun x => by have := x.ok; subst hC; exact this
        have a0 : ∀ x : Of C, x.u.cell? ⟨g, h * 3, none⟩ = some (.int .i64 hv) := fun x => ((hfacts x).lay.get hL1).1
        have a1 : ∀ x : Of C, x.u.cell? ⟨g, h * 3 + 1, none⟩ = some (.int .i64 ho) := fun x => ((hfacts x).lay.get hL1).2.1
        have a2 : ∀ x : Of C, x.u.cell? ⟨g, h * 3 + 2, none⟩ = some (.int .i64 ha) := fun x => ((hfacts x).lay.get hL1).2.2
        have b0 : ∀ x : Of C, x.u.cell? ⟨g, a * 3, none⟩ = some (.int .i64 xv) := fun x => ((hfacts x).lay.get hL2).1
        have b1 : ∀ x : Of C, x.u.cell? ⟨g, a * 3 + 1, none⟩ = some (.int .i64 xo) := fun x => ((hfacts x).lay.get hL2).2.1
        have b2 : ∀ x : Of C, x.u.cell? ⟨g, a * 3 + 2, none⟩ = some (.int .i64 xa) := fun x => ((hfacts x).lay.get hL2).2.2
        have HK : Hid (∀ x : Of C, Srt eI 33 w0 x.u g cap L) := hfacts
        haveI hne : Nonempty (Of C) := Of.some (w := wr) (by subst hC; exact hSr)
        have hC0 : C wr.drew := by subst hC; exact hSr.drew 1
        clear hC hfacts hSr hL1 hL2
        refine wp_region_class C (by kernel_rfl) (by kernel_rfl) hC0 ?_
        clear hC0
        repeat (go_big_quiet_step (first | (go_at_call 28; exact Of.call _ (c0 _) (keepC _))))
        refine wpQuiet_nil ?_
        rintro _ ⟨x, rfl⟩
        obtain ⟨wy, hwy⟩ : ∃ wy, wy = x.u := ⟨_, rfl⟩
        have hSy : Srt eI 33 w0 wy g cap L := hwy ▸ HK.out x
        rw [← hwy]
        clear hwy HK a0 a1 a2 b0 b1 b2 keepC x hne C
        have hSy := hid hSy
        go_wp2_with fail
        go_roundw
        case rel => exact ⟨i, h, by omega, by omega, by omega, rfl, rfl, HD'.out, hSy.out⟩
        case measure => simp only [intOf]; omega
    · have hki : ¬ (i : Int) < (j : Int) := by omega
      obtain ⟨hF, hSr⟩ := hrel.out
      obtain rfl : i = j := by omega
      rw [HL.out] at hF
      obtain ⟨V1, V2, hV, hi, hmrg⟩ := HT.out.one _ hF
      have ha' := HT.out.ha
      have HE : Hid (P ++ mrg En.ver [⟨xv, xo, xa⟩] V ++ S = P ++ (V1 ++ ⟨xv, xo, xa⟩ :: (V2 ++ S))) := by unfold Hid; rw [hmrg]; simp
      have HM0 : Hid (Mvu P V1 (V2 ++ S) (⟨xv, xo, xa⟩ : En Int) a L) := by unfold Hid; rw [HL.out, hV, ha']; have := Mvu.start P V1 (V2 ++ S) (⟨xv, xo, xa⟩ : En Int); simpa using this
      have HB : Hid (a = P.length ∧ i = P.length + 1 + V1.length) := ⟨ha', by have := HM.out; omega⟩
      have HS2 := hid hSr
      have r5 : IntKind.i64.wrap ((i : Int) - 1) = ((i - 1 : Nat) : Int) := by rw [IntKind.wrap_i64]; omega
      have hd1 : i - 1 ≤ 2000 := by omega
      have HD1 : Hid (i - 1 = P.length + V1.length) := by have := HM.out; unfold Hid; omega
      generalize hd : i - 1 = d at *
      clear hF hSr hrel hV hi hmrg ha' hd
      go_wp2_with fail
      go_loopw [13] (fun v u => ∃ k : Nat, k ≤ d ∧ v = .int .i64 (k : Int) ∧ Hid (∃ L', L'.length = N ∧ Mvu P V1 (V2 ++ S) (⟨xv, xo, xa⟩ : En Int) k L' ∧ Srt eI 33 w0 u g cap L')) (fun v _ => d - (intOf v).toNat)
      case atStart => exact ⟨a, by have := HB.out; have := HD1.out; omega, rfl, L, HN.out.symm, HM0.out, HS2.out⟩
      case round =>
        clear HM0 HS2 HX HF HL HT HM HN HS
        obtain ⟨k, hk, rfl, hrel⟩ := hrel
        obtain ⟨L', hL', hMv, hSr⟩ := hrel.out
        by_cases hkd : k < d
        · have hki2 : (k : Int) < (d : Int) := by omega
          obtain ⟨⟨⟨zv, zo, za⟩, hx, hz⟩, hMv2⟩ := hMv.go (by have := HD1.out; omega)
          have hkN : k + 1 < N := by have := (List.getElem?_eq_some_iff.1 hz).1; omega
          have q1 : IntKind.i64.wrap ((k : Int) + 1) = (k : Int) + 1 := by rw [IntKind.wrap_i64]; omega
          have q2 : (k : Int) < (N : Int) := by omega
          have q3 : (k : Int) + 1 < (N : Int) := by omega
          have q4 : (0 : Int) ≤ (k : Int) := by omega
          have q5 : (0 : Int) ≤ (k : Int) + 1 := by omega
          have q6 : ((k : Int) + 1).toNat = k + 1 := by omega
          have HMV := hid hMv2
          have hLs := hid (And.intro hx hz)
          have hSd := hid hSr
          clear hrel hMv hMv2 hx hz hSr
          go_wp2_with fail
          obtain ⟨wy, hwy⟩ : ∃ wy, wy = wr := ⟨_, rfl⟩
          subst hwy
          have HSy : Srt eI 33 w0 wy g cap L' := hSd.out
          have HSd : Srt eI 33 w0 wy.drew g cap L' := HSy.drew 1
          have hLi := hLs.out.1
          have hLj := hLs.out.2
          have hne : k ≠ k + 1 := by omega
          obtain ⟨x0, x1, x2⟩ := HSd.lay.get hLi
          obtain ⟨y0, y1, y2⟩ := HSd.lay.get hLj
          obtain ⟨x0', x1', x2'⟩ := HSy.lay.get hLi
          obtain ⟨y0', y1', y2'⟩ := HSy.lay.get hLj
          have hst := HSy.swp hLi hLj
          obtain ⟨z0, z1, z2⟩ := HSd.lay.mid hLi hLj hne _ rfl
          obtain ⟨z0', z1', z2'⟩ := HSy.lay.mid hLi hLj hne _ rfl
          simp only [eI] at hst x0 x1 x2 y0 y1 y2 x0' x1' x2' y0' y1' y2' z0 z1 z2 z0' z1' z2'
          have HST := hid hst
          clear hst
          have HCS : Hid (∀ q ∈ [((⟨g, k * 3, none⟩ : Addr), (.int .i64 xv : Value)), (⟨g, k * 3 + 1, none⟩, .int .i64 xo), (⟨g, k * 3 + 2, none⟩, .int .i64 xa), (⟨g, (k + 1) * 3, none⟩, .int .i64 zv), (⟨g, (k + 1) * 3 + 1, none⟩, .int .i64 zo), (⟨g, (k + 1) * 3 + 2, none⟩, .int .i64 za)], wy.drew.cell? q.1 = some q.2) := fun q hq => by
            simp at hq
            rcases hq with rfl | rfl | rfl | rfl | rfl | rfl
            · exact x0
            · exact x1
            · exact x2
            · exact y0
            · exact y1
            · exact y2
          have fz : ∀ q : Nat, wy.frozen? ⟨g, q, none⟩ = false := fun q => HSd.lay.frozen q
          clear hSd HSd HSy hLi hLj hne
          refine wp_region_any (by kernel_rfl) ?_
          refine wpAny_take (i := 0) (v := ?_) rfl (by kernel_rfl) (by kernel_rfl) (by kernel_rfl) (fun _ _ _ h => h) (Or.inl ⟨by rfl, ?_⟩) ?_
          rotate_left
          · intro u
            go_simp
            with_reducible rfl
          simp only [Act.put, List.setIfInBounds_toArray, List.set_cons_zero, List.set_cons_succ, List.getElem_toArray, List.getElem_cons_zero]
          refine wpAny_take (i := 1) (v := ?_) rfl (by kernel_rfl) (by kernel_rfl) (by kernel_rfl) (fun _ _ _ h => h) (Or.inl ⟨by rfl, ?_⟩) ?_
          rotate_left
          · intro u
            go_simp
            with_reducible rfl
          simp only [Act.put, List.setIfInBounds_toArray, List.set_cons_zero, List.set_cons_succ, List.getElem_toArray, List.getElem_cons_zero, List.getElem_cons_succ]
          refine wpAny_take (i := 2) (v := ?_) rfl (by kernel_rfl) (by kernel_rfl) (by kernel_rfl) (fun _ _ _ h => h) (Or.inl ⟨by rfl, ?_⟩) ?_
          rotate_left
          · intro u
            go_simp
            with_reducible rfl
          simp only [Act.put, List.setIfInBounds_toArray, List.set_cons_zero, List.set_cons_succ, List.getElem_toArray, List.getElem_cons_zero, List.getElem_cons_succ]
          refine wpAny_take (i := 3) (v := ?_) rfl (by kernel_rfl) (by kernel_rfl) (by kernel_rfl) (fun _ _ _ h => h) (Or.inl ⟨by rfl, ?_⟩) ?_
          rotate_left
          · intro u
            go_simp
            with_reducible rfl
          simp only [Act.put, List.setIfInBounds_toArray, List.set_cons_zero, List.set_cons_succ, List.getElem_toArray, List.getElem_cons_zero, List.getElem_cons_succ]
          refine wpAny_take (i := 4) (v := ?_) rfl (by kernel_rfl) (by kernel_rfl) (by kernel_rfl) (fun _ _ _ h => h) (Or.inl ⟨by rfl, ?_⟩) ?_
          rotate_left
          · intro u
            go_simp
            with_reducible rfl
          simp only [Act.put, List.setIfInBounds_toArray, List.set_cons_zero, List.set_cons_succ, List.getElem_toArray, List.getElem_cons_zero, List.getElem_cons_succ]
          refine wpAny_take (i := 5) (v := ?_) rfl (by kernel_rfl) (by kernel_rfl) (by kernel_rfl) (fun _ _ _ h => h) (Or.inl ⟨by rfl, ?_⟩) ?_
          rotate_left
          · intro u
            go_simp
            with_reducible rfl
          simp only [Act.put, List.setIfInBounds_toArray, List.set_cons_zero, List.set_cons_succ, List.getElem_toArray, List.getElem_cons_zero, List.getElem_cons_succ]
          refine wpAny_take (i := 6) (v := ?_) rfl (by kernel_rfl) (by kernel_rfl) (by kernel_rfl) (fun _ _ _ h => h) (Or.inl ⟨by rfl, ?_⟩) ?_
          rotate_left
          · intro u
            go_simp
            with_reducible rfl
          simp only [Act.put, List.setIfInBounds_toArray, List.set_cons_zero, List.set_cons_succ, List.getElem_toArray, List.getElem_cons_zero, List.getElem_cons_succ]
          refine wpAny_take (i := 7) (v := ?_) rfl (by kernel_rfl) (by kernel_rfl) (by kernel_rfl) (fun _ _ _ h => h) (Or.inl ⟨by rfl, ?_⟩) ?_
          rotate_left
          · intro u
            go_simp
            with_reducible rfl
          simp only [Act.put, List.setIfInBounds_toArray, List.set_cons_zero, List.set_cons_succ, List.getElem_toArray, List.getElem_cons_zero, List.getElem_cons_succ]
          refine wpAny_take (i := 8) (v := ?_) rfl (by kernel_rfl) (by kernel_rfl) (by kernel_rfl) (fun _ _ _ h => h) (Or.inl ⟨by rfl, ?_⟩) ?_
          rotate_left
          · intro u
            go_simp
            with_reducible rfl
          simp only [Act.put, List.setIfInBounds_toArray, List.set_cons_zero, List.set_cons_succ, List.getElem_toArray, List.getElem_cons_zero, List.getElem_cons_succ]
          refine wpAny_take (i := 10) (v := ?_) rfl (by kernel_rfl) (by kernel_rfl) (by kernel_rfl) (fun _ _ _ h => h) (Or.inl ⟨by rfl, ?_⟩) ?_
          rotate_left
          · intro u
            go_simp
            with_reducible rfl
          simp only [Act.put, List.setIfInBounds_toArray, List.set_cons_zero, List.set_cons_succ, List.getElem_toArray, List.getElem_cons_zero, List.getElem_cons_succ]
          refine wpAny_take (i := 11) (v := ?_) rfl (by kernel_rfl) (by kernel_rfl) (by kernel_rfl) (fun _ _ _ h => h) (Or.inl ⟨by rfl, ?_⟩) ?_
          rotate_left
          · intro u
            go_simp
            with_reducible rfl
          simp only [Act.put, List.setIfInBounds_toArray, List.set_cons_zero, List.set_cons_succ, List.getElem_toArray, List.getElem_cons_zero, List.getElem_cons_succ]
          refine wpAny_take (i := 12) (v := ?_) rfl (by kernel_rfl) (by kernel_rfl) (by kernel_rfl) (fun _ _ _ h => h) (Or.inl ⟨by rfl, ?_⟩) ?_
          rotate_left
          · intro u
            go_simp
            with_reducible rfl
          simp only [Act.put, List.setIfInBounds_toArray, List.set_cons_zero, List.set_cons_succ, List.getElem_toArray, List.getElem_cons_zero, List.getElem_cons_succ]
          refine wpAny_of_E (C := SlotsCells [(69, .pointer (some ⟨g, (k + 1) * 3, none⟩)), (73, .pointer (some ⟨g, k * 3, none⟩))] [(⟨g, k * 3, none⟩, .int .i64 xv), (⟨g, k * 3 + 1, none⟩, .int .i64 xo), (⟨g, k * 3 + 2, none⟩, .int .i64 xa), (⟨g, (k + 1) * 3, none⟩, .int .i64 zv), (⟨g, (k + 1) * 3 + 1, none⟩, .int .i64 zo), (⟨g, (k + 1) * 3 + 2, none⟩, .int .i64 za)]) (late := [15, 17]) _ _ _ _ ?_
          refine wpAnyE_take (i := 9) (v := .agg #[.int .i64 zv, .int .i64 zo, .int .i64 za]) rfl (by kernel_rfl) (by kernel_rfl) (by kernel_rfl) (by kernel_rfl) (by kernel_rfl) (by kernel_rfl) (fun _ _ _ h => h) ?_ (fun fr u h => (SlotsCells.put 70 _ (by rfl)).1 h) (fun fr u h => (SlotsCells.put 70 _ (by rfl)).2 h) ?_ ?_
          · intro fr u hh
            have e1 := hh.val (s := 69) (v := .pointer (some ⟨g, (k + 1) * 3, none⟩)) (by simp)
            have d0 := hh.2 (⟨g, (k + 1) * 3, none⟩, .int .i64 zv) (by simp)
            have d1 := hh.2 (⟨g, (k + 1) * 3 + 1, none⟩, .int .i64 zo) (by simp)
            have d2 := hh.2 (⟨g, (k + 1) * 3 + 2, none⟩, .int .i64 za) (by simp)
            exact ⟨rfl, by simp [execOp, e1, go_sem, d0, d1, d2]⟩
          · exact ⟨fun q hq => by simp at hq; rcases hq with rfl | rfl <;> rfl, HCS.out⟩
          simp only [Act.put, List.setIfInBounds_toArray, List.set_cons_zero, List.set_cons_succ, List.getElem_toArray, List.getElem_cons_zero, List.getElem_cons_succ]
          refine wpAnyE_take (i := 13) (v := .agg #[.int .i64 xv, .int .i64 xo, .int .i64 xa]) rfl (by kernel_rfl) (by kernel_rfl) (by kernel_rfl) (by kernel_rfl) (by kernel_rfl) (by kernel_rfl) (fun _ _ _ h => h) ?_ (fun fr u h => (SlotsCells.put 74 _ (by rfl)).1 h) (fun fr u h => (SlotsCells.put 74 _ (by rfl)).2 h) ?_ ?_
          · intro fr u hh
            have e1 := hh.val (s := 73) (v := .pointer (some ⟨g, k * 3, none⟩)) (by simp)
            have d0 := hh.2 (⟨g, k * 3, none⟩, .int .i64 xv) (by simp)
            have d1 := hh.2 (⟨g, k * 3 + 1, none⟩, .int .i64 xo) (by simp)
            have d2 := hh.2 (⟨g, k * 3 + 2, none⟩, .int .i64 xa) (by simp)
            exact ⟨rfl, by simp [execOp, e1, go_sem, d0, d1, d2]⟩
          · exact ⟨fun q hq => by simp at hq; rcases hq with rfl | rfl <;> rfl, HCS.out⟩
          simp only [Act.put, List.setIfInBounds_toArray, List.set_cons_zero, List.set_cons_succ, List.getElem_toArray, List.getElem_cons_zero, List.getElem_cons_succ]
          refine wpAnyE_pure (i := 14) (v := ?_) rfl (by kernel_rfl) (by kernel_rfl) (by kernel_rfl) (by kernel_rfl) (fun _ _ _ h => h) (fun fr u h => (SlotsCells.put 75 _ (by rfl)).1 h) (fun fr u h => (SlotsCells.put 75 _ (by rfl)).2 h) (.inr ⟨fun q hq => by simp at hq; rcases hq with rfl | rfl <;> rfl, HCS.out⟩) (Or.inl ⟨by rfl, ?_⟩) ?_
          rotate_left
          · intro u
            go_simp
            with_reducible rfl
          simp only [Act.put, List.setIfInBounds_toArray, List.set_cons_zero, List.set_cons_succ, List.getElem_toArray, List.getElem_cons_zero, List.getElem_cons_succ]
          refine wpAnyE_some (rs := [15]) (by kernel_rfl) (by simp) (fun i hi => ?_)
          simp only [List.mem_cons, List.not_mem_nil, or_false] at hi
          subst hi
          refine wpOp_step rfl (fun Kc hKc => ?_)
          go_simp
          refine hKc _ _ ⟨.inr (.inl rfl), ?_⟩
          clear hKc Kc
          refine wpAnyE_some (rs := [16]) (by kernel_rfl) (by simp) (fun i hi => ?_)
          simp only [List.mem_cons, List.not_mem_nil, or_false] at hi
          subst hi
          refine wpOp_step rfl (fun Kc hKc => ?_)
          go_simp
          refine hKc _ _ ⟨.inl (by kernel_rfl), ?_⟩
          clear hKc Kc
          refine wpAnyE_some (rs := [17]) (by kernel_rfl) (by simp) (fun i hi => ?_)
          simp only [List.mem_cons, List.not_mem_nil, or_false] at hi
          subst hi
          refine wpOp_step rfl (fun Kc hKc => ?_)
          go_simp
          refine hKc _ _ ⟨.inr (.inl rfl), ?_⟩
          clear hKc Kc
          refine wpAnyE_done (by kernel_rfl) ?_ _
          go_wp2_with fail
          go_roundw
          case rel => exact ⟨k + 1, by omega, by simp, _, by rw [swp_len]; exact hL', HMV.out, HST.out.drew 1⟩
          case measure => simp only [intOf]; omega
        · have hki2 : ¬ (k : Int) < (d : Int) := by omega
          have HG : Hid (Srt eI 33 w0 wr g cap (P ++ mrg En.ver [⟨xv, xo, xa⟩] V ++ S)) := by
            unfold Hid
            rw [HE.out, ← hMv.done (by have := HD1.out; omega)]; exact hSr
          clear hrel hMv hSr
          go_wp2_with fail
          refine bodyPost_ret (v := .tuple #[]) (by simp [results, Try.results47, go_sem]) rfl ⟨rfl, ?_⟩
          have hf := HG.out
          simp only [List.append_assoc] at hf ⊢
          exact hf
end I
end Go.Proofs.Ytlbnilendcelkaa
