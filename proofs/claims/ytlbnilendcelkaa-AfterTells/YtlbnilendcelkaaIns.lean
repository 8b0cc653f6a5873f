/-
  Insertion.
-/
import Derived.Test.YtlbnilendcelkaaInsP
import Derived.Test.YtlbnilendcelkaaClass
import Derived.Test.YtlbnilendcelkaaLate
namespace Go.Proofs.Ytlbnilendcelkaa
open Go.RowKit
namespace I
set_option maxRecDepth 100000 in
set_option maxHeartbeats 8000000 in
theorem insertion_at {w : World} {g cap N c : Nat} (Q Mid R : List (En Int)) (h : Lay eI 33 w g cap (Q ++ Mid ++ R)) (hN : N = (Q ++ Mid ++ R).length) (hn : N ≤ 2000) (a b : Nat) (ha : a = Q.length) (hb : b = a + Mid.length) :
    Calls Try.prog 46 #[.slice (some ⟨g, 0, none⟩) N c, .int .i64 (a : Int), .int .i64 (b : Int), .func (.func 28) #[] #[]] w fun r w' => r = .returned (.tuple #[]) ∧ ∃ Mid', Stb En.ver Mid Mid' ∧ Srt eI 33 w w' g cap (Q ++ Mid' ++ R) := by
  have HS0 : Hid (Srt eI 33 w w g cap (Q ++ Mid ++ R)) := ⟨h, Chg.refl _ _⟩
  have hab : a ≤ b := by omega
  have hbN : b ≤ N := by rw [hN]; simp; omega
  have HA : Hid (a = Q.length ∧ b = a + Mid.length ∧ N = (Q ++ Mid ++ R).length) := ⟨ha, hb, hN⟩
  clear h hN ha hb
  go_enter Try.func46, Try.ntmps46
  go_wp2_with fail
  go_loopw [8] (fun v u => ∃ i : Nat, a < i ∧ (i ≤ b ∨ i = a + 1) ∧ v = .int .i64 (i : Int) ∧ Hid (∃ L, L.length = N ∧ OutR En.ver a i Q Mid R L ∧ Srt eI 33 w u g cap L)) (fun v _ => b - (intOf v).toNat)
  case atStart => exact ⟨a + 1, by omega, .inr rfl, by simp, _, HA.out.2.2.symm, OutR.start _, HS0.out⟩
  case round =>
    obtain ⟨i, hi1, hi2, rfl, hrel⟩ := hrel
    by_cases hlt : i < b
    · have hki : (i : Int) < (b : Int) := by omega
      have HI : Hid (∃ L, L.length = N ∧ InR En.ver a i i Q Mid R L ∧ Srt eI 33 w wr g cap L) := by
        obtain ⟨L, h1, h2, h3⟩ := hrel.out
        exact ⟨L, h1, h2.inn _ hi1 (by have := HA.out.2.1; omega), h3⟩
      clear hrel
      obtain ⟨wz, hwz⟩ : ∃ wz, wz = wr := ⟨_, rfl⟩
      subst hwz
      go_wp2_with fail
      go_loopw [9] (fun v u => ∃ j : Nat, a ≤ j ∧ j ≤ i ∧ v = .int .i64 (j : Int) ∧ Hid (∃ L, L.length = N ∧ InR En.ver a i j Q Mid R L ∧ Srt eI 33 w u g cap L)) (fun v _ => (intOf v).toNat)
      case atStart => exact ⟨i, by omega, Nat.le_refl _, rfl, HI.out⟩
      case round =>
        clear HI
        obtain ⟨j, hj1, hj2, rfl, hrel2⟩ := hrel
        obtain ⟨L, hL, hI, hSr⟩ := hrel2.out
        by_cases hja : j = a
        · subst hja
          have HO : Hid (∀ q, ∃ L, L.length = N ∧ OutR En.ver j (i + 1) Q Mid R L ∧ Srt eI 33 w (wr.drewN q) g cap L) := fun q => ⟨L, hL, hI.zero _ hi1, hSr.drew q⟩
          clear hI hSr hrel2 hL
          go_wp2_with fail
          go_quiet (fail)
          go_wp2_with fail
          go_roundw
          case rel => exact ⟨i + 1, by omega, by omega, by simp, HO.out _⟩
          case measure => simp only [intOf]; omega
        · obtain ⟨k, rfl⟩ : ∃ k, j = k + 1 := ⟨j - 1, by omega⟩
          obtain ⟨⟨pv, po, pa⟩, ⟨yv, yo, ya⟩, hL2, hL1, hno, hyes⟩ := hI.go _ HA.out.1 hi1 (by omega)
          have hgt : (a : Int) < ((k + 1 : Nat) : Int) := by omega
          have hgt2 : (a : Int) < (k : Int) + 1 := by omega
          have hkN : k + 1 < N := by have := (List.getElem?_eq_some_iff.1 hL1).1; omega
          have r1 : IntKind.i64.wrap (k : Int) = (k : Int) := by rw [IntKind.wrap_i64]; omega
          have r2 : IntKind.i64.wrap ((k : Int) + 1) = (k : Int) + 1 := by rw [IntKind.wrap_i64]; omega
          have r3 : (k : Int) < (N : Int) := by omega
          have r4 : (k : Int) + 1 < (N : Int) := by omega
          have r5 : (0 : Int) ≤ (k : Int) := by omega
          have r6 : (0 : Int) ≤ (k : Int) + 1 := by omega
          have r7 : ((k : Int) + 1).toNat = k + 1 := by omega
          have c0 : ∀ u, Calls Try.prog 28 #[.agg #[.int .i64 yv, .int .i64 yo, .int .i64 ya], .agg #[.int .i64 pv, .int .i64 po, .int .i64 pa]] u fun r w' => r = .returned (.int .i64 (cmpI yv pv)) ∧ Below u.heap.size u w' := fun u => I.cmp_at u ⟨yv, yo, ya⟩ ⟨pv, po, pa⟩
          have hLs : Hid (L[k]? = some ⟨pv, po, pa⟩ ∧ L[k + 1]? = some ⟨yv, yo, ya⟩) := ⟨hL2, hL1⟩
          clear hI hrel2
          by_cases hc : yv < pv
          · have HY : Hid (InR En.ver a i k Q Mid R (swp L (k + 1) k)) := hyes hc
            have hcc := (cmpI_neg yv pv).2 hc
            generalize cmpI yv pv = cc at c0 hcc
            clear hno hyes hc
            go_wp2_with fail
            obtain ⟨C, hC⟩ : ∃ C : World → Prop, C = fun u => Srt eI 33 w u g cap L := ⟨_, rfl⟩
            have keepC : ∀ x : Of C, ∀ w', Below x.u.heap.size x.u w' → C w' := fun x w' hb => by have := x.ok; subst hC; exact this.below hb
            have hfacts : ∀ x : Of C, Srt eI 33 w x.u g cap L := fun x => by have := x.ok; subst hC; exact this
            have a0 : ∀ x : Of C, x.u.cell? ⟨g, (k + 1) * 3, none⟩ = some (.int .i64 yv) := fun x => ((hfacts x).lay.get hL1).1
            have a1 : ∀ x : Of C, x.u.cell? ⟨g, (k + 1) * 3 + 1, none⟩ = some (.int .i64 yo) := fun x => ((hfacts x).lay.get hL1).2.1
            have a2 : ∀ x : Of C, x.u.cell? ⟨g, (k + 1) * 3 + 2, none⟩ = some (.int .i64 ya) := fun x => ((hfacts x).lay.get hL1).2.2
            have b0 : ∀ x : Of C, x.u.cell? ⟨g, k * 3, none⟩ = some (.int .i64 pv) := fun x => ((hfacts x).lay.get hL2).1
            have b1 : ∀ x : Of C, x.u.cell? ⟨g, k * 3 + 1, none⟩ = some (.int .i64 po) := fun x => ((hfacts x).lay.get hL2).2.1
            have b2 : ∀ x : Of C, x.u.cell? ⟨g, k * 3 + 2, none⟩ = some (.int .i64 pa) := fun x => ((hfacts x).lay.get hL2).2.2
            have HK : Hid (∀ x : Of C, Srt eI 33 w x.u g cap L) := hfacts
            haveI hne : Nonempty (Of C) := Of.some (w := wr) (by subst hC; exact hSr)
            have hC0 : C wr.drew := by subst hC; exact hSr.drew 1
            clear hC hfacts hSr hL1 hL2
            refine wp_region_class C (by kernel_rfl) (by kernel_rfl) hC0 ?_
            clear hC0
            repeat (go_big_quiet_step (first | (go_at_call 28; exact Of.call _ (c0 _) (keepC _))))
            refine wpQuiet_nil ?_
            rintro _ ⟨x, rfl⟩
            obtain ⟨wy, hwy⟩ : ∃ wy, wy = x.u := ⟨_, rfl⟩
            have hSy : Srt eI 33 w wy g cap L := hwy ▸ HK.out x
            rw [← hwy]
            clear hwy HK a0 a1 a2 b0 b1 b2 keepC x hne C
            have hSd : Hid (Srt eI 33 w wy g cap L) := hSy
            clear hSy
            go_wp2_with fail
            have HSy : Srt eI 33 w wy g cap L := hSd.out
            have HSd : Srt eI 33 w wy.drew g cap L := HSy.drew 1
            have hLi := hLs.out.2
            have hLj := hLs.out.1
            obtain ⟨x0, x1, x2⟩ := HSd.lay.get hLi
            obtain ⟨y0, y1, y2⟩ := HSd.lay.get hLj
            obtain ⟨x0', x1', x2'⟩ := HSy.lay.get hLi
            obtain ⟨y0', y1', y2'⟩ := HSy.lay.get hLj
            have hst := HSy.swp hLi hLj
            obtain ⟨z0, z1, z2⟩ := HSd.lay.mid hLi hLj (by omega) _ rfl
            obtain ⟨z0', z1', z2'⟩ := HSy.lay.mid hLi hLj (by omega) _ rfl
            simp only [eI] at hst x0 x1 x2 y0 y1 y2 x0' x1' x2' y0' y1' y2' z0 z1 z2 z0' z1' z2'
            have HST := hid hst
            clear hst
            have HCS : Hid (∀ q ∈ [((⟨g, (k + 1) * 3, none⟩ : Addr), (.int .i64 yv : Value)), (⟨g, (k + 1) * 3 + 1, none⟩, .int .i64 yo), (⟨g, (k + 1) * 3 + 2, none⟩, .int .i64 ya), (⟨g, k * 3, none⟩, .int .i64 pv), (⟨g, k * 3 + 1, none⟩, .int .i64 po), (⟨g, k * 3 + 2, none⟩, .int .i64 pa)], wy.drew.cell? q.1 = some q.2) := fun q hq => by
              simp at hq
              rcases hq with rfl | rfl | rfl | rfl | rfl | rfl
              · exact x0
              · exact x1
              · exact x2
              · exact y0
              · exact y1
              · exact y2
            have fz : ∀ q : Nat, wy.frozen? ⟨g, q, none⟩ = false := fun q => HSd.lay.frozen q
            clear hSd HSd HSy hLi hLj
            refine wp_region_any (by kernel_rfl) ?_
            refine wpAny_take (i := 0) (v := ?_) rfl (by kernel_rfl) (by kernel_rfl) (by kernel_rfl) (fun _ _ _ h => h) (Or.inl ⟨by rfl, ?_⟩) ?_
            rotate_left
            · intro u
              go_simp
              with_reducible rfl
            simp only [Act.put, List.setIfInBounds_toArray, List.set_cons_zero, List.set_cons_succ, List.getElem_toArray, List.getElem_cons_zero]
            refine wpAny_take (i := 1) (v := ?_) rfl (by kernel_rfl) (by kernel_rfl) (by kernel_rfl) (fun _ _ _ h => h) (Or.inl ⟨by rfl, ?_⟩) ?_
            rotate_left
            · intro u
              go_simp
              with_reducible rfl
            simp only [Act.put, List.setIfInBounds_toArray, List.set_cons_zero, List.set_cons_succ, List.getElem_toArray, List.getElem_cons_zero, List.getElem_cons_succ]
            refine wpAny_take (i := 2) (v := ?_) rfl (by kernel_rfl) (by kernel_rfl) (by kernel_rfl) (fun _ _ _ h => h) (Or.inl ⟨by rfl, ?_⟩) ?_
            rotate_left
            · intro u
              go_simp
              with_reducible rfl
            simp only [Act.put, List.setIfInBounds_toArray, List.set_cons_zero, List.set_cons_succ, List.getElem_toArray, List.getElem_cons_zero, List.getElem_cons_succ]
            refine wpAny_take (i := 3) (v := ?_) rfl (by kernel_rfl) (by kernel_rfl) (by kernel_rfl) (fun _ _ _ h => h) (Or.inl ⟨by rfl, ?_⟩) ?_
            rotate_left
            · intro u
              go_simp
              with_reducible rfl
            simp only [Act.put, List.setIfInBounds_toArray, List.set_cons_zero, List.set_cons_succ, List.getElem_toArray, List.getElem_cons_zero, List.getElem_cons_succ]
            refine wpAny_take (i := 4) (v := ?_) rfl (by kernel_rfl) (by kernel_rfl) (by kernel_rfl) (fun _ _ _ h => h) (Or.inl ⟨by rfl, ?_⟩) ?_
            rotate_left
            · intro u
              go_simp
              with_reducible rfl
            simp only [Act.put, List.setIfInBounds_toArray, List.set_cons_zero, List.set_cons_succ, List.getElem_toArray, List.getElem_cons_zero, List.getElem_cons_succ]
            refine wpAny_take (i := 5) (v := ?_) rfl (by kernel_rfl) (by kernel_rfl) (by kernel_rfl) (fun _ _ _ h => h) (Or.inl ⟨by rfl, ?_⟩) ?_
            rotate_left
            · intro u
              go_simp
              with_reducible rfl
            simp only [Act.put, List.setIfInBounds_toArray, List.set_cons_zero, List.set_cons_succ, List.getElem_toArray, List.getElem_cons_zero, List.getElem_cons_succ]
            refine wpAny_take (i := 6) (v := ?_) rfl (by kernel_rfl) (by kernel_rfl) (by kernel_rfl) (fun _ _ _ h => h) (Or.inl ⟨by rfl, ?_⟩) ?_
            rotate_left
            · intro u
              go_simp
              with_reducible rfl
            simp only [Act.put, List.setIfInBounds_toArray, List.set_cons_zero, List.set_cons_succ, List.getElem_toArray, List.getElem_cons_zero, List.getElem_cons_succ]
            refine wpAny_take (i := 7) (v := ?_) rfl (by kernel_rfl) (by kernel_rfl) (by kernel_rfl) (fun _ _ _ h => h) (Or.inl ⟨by rfl, ?_⟩) ?_
            rotate_left
            · intro u
              go_simp
              with_reducible rfl
            simp only [Act.put, List.setIfInBounds_toArray, List.set_cons_zero, List.set_cons_succ, List.getElem_toArray, List.getElem_cons_zero, List.getElem_cons_succ]
            refine wpAny_take (i := 8) (v := ?_) rfl (by kernel_rfl) (by kernel_rfl) (by kernel_rfl) (fun _ _ _ h => h) (Or.inl ⟨by rfl, ?_⟩) ?_
            rotate_left
            · intro u
              go_simp
              with_reducible rfl
            simp only [Act.put, List.setIfInBounds_toArray, List.set_cons_zero, List.set_cons_succ, List.getElem_toArray, List.getElem_cons_zero, List.getElem_cons_succ]
            refine wpAny_take (i := 10) (v := ?_) rfl (by kernel_rfl) (by kernel_rfl) (by kernel_rfl) (fun _ _ _ h => h) (Or.inl ⟨by rfl, ?_⟩) ?_
            rotate_left
            · intro u
              go_simp
              with_reducible rfl
            simp only [Act.put, List.setIfInBounds_toArray, List.set_cons_zero, List.set_cons_succ, List.getElem_toArray, List.getElem_cons_zero, List.getElem_cons_succ]
            refine wpAny_take (i := 11) (v := ?_) rfl (by kernel_rfl) (by kernel_rfl) (by kernel_rfl) (fun _ _ _ h => h) (Or.inl ⟨by rfl, ?_⟩) ?_
            rotate_left
            · intro u
              go_simp
              with_reducible rfl
            simp only [Act.put, List.setIfInBounds_toArray, List.set_cons_zero, List.set_cons_succ, List.getElem_toArray, List.getElem_cons_zero, List.getElem_cons_succ]
            refine wpAny_take (i := 12) (v := ?_) rfl (by kernel_rfl) (by kernel_rfl) (by kernel_rfl) (fun _ _ _ h => h) (Or.inl ⟨by rfl, ?_⟩) ?_
            rotate_left
            · intro u
              go_simp
              with_reducible rfl
            simp only [Act.put, List.setIfInBounds_toArray, List.set_cons_zero, List.set_cons_succ, List.getElem_toArray, List.getElem_cons_zero, List.getElem_cons_succ]
            refine wpAny_of_E (C := SlotsCells [(45, .pointer (some ⟨g, k * 3, none⟩)), (49, .pointer (some ⟨g, (k + 1) * 3, none⟩))] [(⟨g, (k + 1) * 3, none⟩, .int .i64 yv), (⟨g, (k + 1) * 3 + 1, none⟩, .int .i64 yo), (⟨g, (k + 1) * 3 + 2, none⟩, .int .i64 ya), (⟨g, k * 3, none⟩, .int .i64 pv), (⟨g, k * 3 + 1, none⟩, .int .i64 po), (⟨g, k * 3 + 2, none⟩, .int .i64 pa)]) (late := [15, 17]) _ _ _ _ ?_
            refine wpAnyE_take (i := 9) (v := .agg #[.int .i64 pv, .int .i64 po, .int .i64 pa]) rfl (by kernel_rfl) (by kernel_rfl) (by kernel_rfl) (by kernel_rfl) (by kernel_rfl) (by kernel_rfl) (fun _ _ _ h => h) ?_ (fun fr u h => (SlotsCells.put 46 _ (by rfl)).1 h) (fun fr u h => (SlotsCells.put 46 _ (by rfl)).2 h) ?_ ?_
            · intro fr u hh
              have e1 := hh.val (s := 45) (v := .pointer (some ⟨g, k * 3, none⟩)) (by simp)
              have d0 := hh.2 (⟨g, k * 3, none⟩, .int .i64 pv) (by simp)
              have d1 := hh.2 (⟨g, k * 3 + 1, none⟩, .int .i64 po) (by simp)
              have d2 := hh.2 (⟨g, k * 3 + 2, none⟩, .int .i64 pa) (by simp)
              exact ⟨rfl, by simp [execOp, e1, go_sem, d0, d1, d2]⟩
            · exact ⟨fun q hq => by simp at hq; rcases hq with rfl | rfl <;> rfl, HCS.out⟩
            simp only [Act.put, List.setIfInBounds_toArray, List.set_cons_zero, List.set_cons_succ, List.getElem_toArray, List.getElem_cons_zero, List.getElem_cons_succ]
            refine wpAnyE_take (i := 13) (v := .agg #[.int .i64 yv, .int .i64 yo, .int .i64 ya]) rfl (by kernel_rfl) (by kernel_rfl) (by kernel_rfl) (by kernel_rfl) (by kernel_rfl) (by kernel_rfl) (fun _ _ _ h => h) ?_ (fun fr u h => (SlotsCells.put 50 _ (by rfl)).1 h) (fun fr u h => (SlotsCells.put 50 _ (by rfl)).2 h) ?_ ?_
            · intro fr u hh
              have e1 := hh.val (s := 49) (v := .pointer (some ⟨g, (k + 1) * 3, none⟩)) (by simp)
              have d0 := hh.2 (⟨g, (k + 1) * 3, none⟩, .int .i64 yv) (by simp)
              have d1 := hh.2 (⟨g, (k + 1) * 3 + 1, none⟩, .int .i64 yo) (by simp)
              have d2 := hh.2 (⟨g, (k + 1) * 3 + 2, none⟩, .int .i64 ya) (by simp)
              exact ⟨rfl, by simp [execOp, e1, go_sem, d0, d1, d2]⟩
            · exact ⟨fun q hq => by simp at hq; rcases hq with rfl | rfl <;> rfl, HCS.out⟩
            simp only [Act.put, List.setIfInBounds_toArray, List.set_cons_zero, List.set_cons_succ, List.getElem_toArray, List.getElem_cons_zero, List.getElem_cons_succ]
            refine wpAnyE_pure (i := 14) (v := ?_) rfl (by kernel_rfl) (by kernel_rfl) (by kernel_rfl) (by kernel_rfl) (fun _ _ _ h => h) (fun fr u h => (SlotsCells.put 51 _ (by rfl)).1 h) (fun fr u h => (SlotsCells.put 51 _ (by rfl)).2 h) (.inr ⟨fun q hq => by simp at hq; rcases hq with rfl | rfl <;> rfl, HCS.out⟩) (Or.inl ⟨by rfl, ?_⟩) ?_
            rotate_left
            · intro u
              go_simp
              with_reducible rfl
            simp only [Act.put, List.setIfInBounds_toArray, List.set_cons_zero, List.set_cons_succ, List.getElem_toArray, List.getElem_cons_zero, List.getElem_cons_succ]
            refine wpAnyE_some (rs := [15]) (by kernel_rfl) (by simp) (fun i hi => ?_)
            simp only [List.mem_cons, List.not_mem_nil, or_false] at hi
            subst hi
            refine wpOp_step rfl (fun Kc hKc => ?_)
            go_simp
            refine hKc _ _ ⟨.inr (.inl rfl), ?_⟩
            clear hKc Kc
            refine wpAnyE_some (rs := [16]) (by kernel_rfl) (by simp) (fun i hi => ?_)
            simp only [List.mem_cons, List.not_mem_nil, or_false] at hi
            subst hi
            refine wpOp_step rfl (fun Kc hKc => ?_)
            go_simp
            refine hKc _ _ ⟨.inl (by kernel_rfl), ?_⟩
            clear hKc Kc
            refine wpAnyE_some (rs := [17]) (by kernel_rfl) (by simp) (fun i hi => ?_)
            simp only [List.mem_cons, List.not_mem_nil, or_false] at hi
            subst hi
            refine wpOp_step rfl (fun Kc hKc => ?_)
            go_simp
            refine hKc _ _ ⟨.inr (.inl rfl), ?_⟩
            clear hKc Kc
            refine wpAnyE_done (by kernel_rfl) ?_ _
            go_wp2_with fail
            go_roundw
            case rel => exact ⟨k, by omega, by omega, by simp, _, by rw [swp_len]; exact hL, HY.out, HST.out.drew 1⟩
            case measure => simp only [intOf]; omega
          · have HN : Hid (OutR En.ver a (i + 1) Q Mid R L) := hno hc
            have hcc : ¬ cmpI yv pv < 0 := fun h => hc ((cmpI_neg yv pv).1 h)
            generalize cmpI yv pv = cc at c0 hcc
            clear hno hyes hc hLs
            go_wp2_with fail
            obtain ⟨C, hC⟩ : ∃ C : World → Prop, C = fun u => Srt eI 33 w u g cap L := ⟨_, rfl⟩
            have keepC : ∀ x : Of C, ∀ w', Below x.u.heap.size x.u w' → C w' := fun x w' hb => by have := x.ok; subst hC; exact this.below hb
            have hfacts : ∀ x : Of C, Srt eI 33 w x.u g cap L := fun x => by have := x.ok; subst hC; exact this
            have a0 : ∀ x : Of C, x.u.cell? ⟨g, (k + 1) * 3, none⟩ = some (.int .i64 yv) := fun x => ((hfacts x).lay.get hL1).1
            have a1 : ∀ x : Of C, x.u.cell? ⟨g, (k + 1) * 3 + 1, none⟩ = some (.int .i64 yo) := fun x => ((hfacts x).lay.get hL1).2.1
            have a2 : ∀ x : Of C, x.u.cell? ⟨g, (k + 1) * 3 + 2, none⟩ = some (.int .i64 ya) := fun x => ((hfacts x).lay.get hL1).2.2
            have b0 : ∀ x : Of C, x.u.cell? ⟨g, k * 3, none⟩ = some (.int .i64 pv) := fun x => ((hfacts x).lay.get hL2).1
            have b1 : ∀ x : Of C, x.u.cell? ⟨g, k * 3 + 1, none⟩ = some (.int .i64 po) := fun x => ((hfacts x).lay.get hL2).2.1
            have b2 : ∀ x : Of C, x.u.cell? ⟨g, k * 3 + 2, none⟩ = some (.int .i64 pa) := fun x => ((hfacts x).lay.get hL2).2.2
            have HK : Hid (∀ x : Of C, Srt eI 33 w x.u g cap L) := hfacts
            haveI hne : Nonempty (Of C) := Of.some (w := wr) (by subst hC; exact hSr)
            have hC0 : C wr.drew := by subst hC; exact hSr.drew 1
            clear hC hfacts hSr hL1 hL2
            refine wp_region_class C (by kernel_rfl) (by kernel_rfl) hC0 ?_
            clear hC0
            repeat (go_big_quiet_step (first | (go_at_call 28; exact Of.call _ (c0 _) (keepC _))))
            refine wpQuiet_nil ?_
            rintro _ ⟨x, rfl⟩
            obtain ⟨wy, hwy⟩ : ∃ wy, wy = x.u := ⟨_, rfl⟩
            have hSy : Srt eI 33 w wy g cap L := hwy ▸ HK.out x
            rw [← hwy]
            clear hwy HK a0 a1 a2 b0 b1 b2 keepC x hne C
            have HSy := hid hSy
            clear hSy
            go_wp2_with fail
            go_roundw
            case rel => exact ⟨i + 1, by omega, by omega, by simp, _, hL, HN.out, HSy.out⟩
            case measure => simp only [intOf]; omega
    · have hki : ¬ (i : Int) < (b : Int) := by omega
      have HF : Hid (∃ Mid', Stb En.ver Mid Mid' ∧ Srt eI 33 w wr g cap (Q ++ Mid' ++ R)) := by
        obtain ⟨L, h1, h2, h3⟩ := hrel.out
        obtain ⟨M1, h4, rfl⟩ := h2.done _ (by have := HA.out.2.1; omega)
        exact ⟨M1, h4, h3⟩
      clear hrel
      go_wp2_with fail
      go_end0
      refine ⟨rfl, ?_⟩
      have hf := HF.out
      simp only [List.append_assoc] at hf ⊢
      exact hf
end I
namespace S
set_option maxRecDepth 100000 in
set_option maxHeartbeats 8000000 in
theorem insertion_at {w : World} {g cap N c : Nat} (Q Mid R : List (En ByteArray)) (h : Lay eS 67 w g cap (Q ++ Mid ++ R)) (hN : N = (Q ++ Mid ++ R).length) (hn : N ≤ 2000) (a b : Nat) (ha : a = Q.length) (hb : b = a + Mid.length) :
    Calls Try.prog 51 #[.slice (some ⟨g, 0, none⟩) N c, .int .i64 (a : Int), .int .i64 (b : Int), .func (.func 43) #[] #[]] w fun r w' => r = .returned (.tuple #[]) ∧ ∃ Mid', Stb En.ver Mid Mid' ∧ Srt eS 67 w w' g cap (Q ++ Mid' ++ R) := by
  have HS0 : Hid (Srt eS 67 w w g cap (Q ++ Mid ++ R)) := ⟨h, Chg.refl _ _⟩
  have hab : a ≤ b := by omega
  have hbN : b ≤ N := by rw [hN]; simp; omega
  have HA : Hid (a = Q.length ∧ b = a + Mid.length ∧ N = (Q ++ Mid ++ R).length) := ⟨ha, hb, hN⟩
  clear h hN ha hb
  go_enter Try.func51, Try.ntmps51
  go_wp2_with fail
  go_loopw [8] (fun v u => ∃ i : Nat, a < i ∧ (i ≤ b ∨ i = a + 1) ∧ v = .int .i64 (i : Int) ∧ Hid (∃ L, L.length = N ∧ OutR En.ver a i Q Mid R L ∧ Srt eS 67 w u g cap L)) (fun v _ => b - (intOf v).toNat)
  case atStart => exact ⟨a + 1, by omega, .inr rfl, by simp, _, HA.out.2.2.symm, OutR.start _, HS0.out⟩
  case round =>
    obtain ⟨i, hi1, hi2, rfl, hrel⟩ := hrel
    by_cases hlt : i < b
    · have hki : (i : Int) < (b : Int) := by omega
      have HI : Hid (∃ L, L.length = N ∧ InR En.ver a i i Q Mid R L ∧ Srt eS 67 w wr g cap L) := by
        obtain ⟨L, h1, h2, h3⟩ := hrel.out
        exact ⟨L, h1, h2.inn _ hi1 (by have := HA.out.2.1; omega), h3⟩
      clear hrel
      obtain ⟨wz, hwz⟩ : ∃ wz, wz = wr := ⟨_, rfl⟩
      subst hwz
      go_wp2_with fail
      go_loopw [9] (fun v u => ∃ j : Nat, a ≤ j ∧ j ≤ i ∧ v = .int .i64 (j : Int) ∧ Hid (∃ L, L.length = N ∧ InR En.ver a i j Q Mid R L ∧ Srt eS 67 w u g cap L)) (fun v _ => (intOf v).toNat)
      case atStart => exact ⟨i, by omega, Nat.le_refl _, rfl, HI.out⟩
      case round =>
        clear HI
        obtain ⟨j, hj1, hj2, rfl, hrel2⟩ := hrel
        obtain ⟨L, hL, hI, hSr⟩ := hrel2.out
        by_cases hja : j = a
        · subst hja
          have HO : Hid (∀ q, ∃ L, L.length = N ∧ OutR En.ver j (i + 1) Q Mid R L ∧ Srt eS 67 w (wr.drewN q) g cap L) := fun q => ⟨L, hL, hI.zero _ hi1, hSr.drew q⟩
          clear hI hSr hrel2 hL
          go_wp2_with fail
          go_quiet (fail)
          go_wp2_with fail
          go_roundw
          case rel => exact ⟨i + 1, by omega, by omega, by simp, HO.out _⟩
          case measure => simp only [intOf]; omega
        · obtain ⟨k, rfl⟩ : ∃ k, j = k + 1 := ⟨j - 1, by omega⟩
          obtain ⟨⟨pv, po, pa⟩, ⟨yv, yo, ya⟩, hL2, hL1, hno, hyes⟩ := hI.go _ HA.out.1 hi1 (by omega)
          have hgt : (a : Int) < ((k + 1 : Nat) : Int) := by omega
          have hgt2 : (a : Int) < (k : Int) + 1 := by omega
          have hkN : k + 1 < N := by have := (List.getElem?_eq_some_iff.1 hL1).1; omega
          have r1 : IntKind.i64.wrap (k : Int) = (k : Int) := by rw [IntKind.wrap_i64]; omega
          have r2 : IntKind.i64.wrap ((k : Int) + 1) = (k : Int) + 1 := by rw [IntKind.wrap_i64]; omega
          have r3 : (k : Int) < (N : Int) := by omega
          have r4 : (k : Int) + 1 < (N : Int) := by omega
          have r5 : (0 : Int) ≤ (k : Int) := by omega
          have r6 : (0 : Int) ≤ (k : Int) + 1 := by omega
          have r7 : ((k : Int) + 1).toNat = k + 1 := by omega
          have c0 : ∀ u, Calls Try.prog 43 #[.agg #[.int .i64 yv, .int .i64 yo, .string ya], .agg #[.int .i64 pv, .int .i64 po, .string pa]] u fun r w' => r = .returned (.int .i64 (cmpI yv pv)) ∧ Below u.heap.size u w' := fun u => S.cmp_at u ⟨yv, yo, ya⟩ ⟨pv, po, pa⟩
          have hLs : Hid (L[k]? = some ⟨pv, po, pa⟩ ∧ L[k + 1]? = some ⟨yv, yo, ya⟩) := ⟨hL2, hL1⟩
          clear hI hrel2
          by_cases hc : yv < pv
          · have HY : Hid (InR En.ver a i k Q Mid R (swp L (k + 1) k)) := hyes hc
            have hcc := (cmpI_neg yv pv).2 hc
            generalize cmpI yv pv = cc at c0 hcc
            clear hno hyes hc
            go_wp2_with fail
            obtain ⟨C, hC⟩ : ∃ C : World → Prop, C = fun u => Srt eS 67 w u g cap L := ⟨_, rfl⟩
            have keepC : ∀ x : Of C, ∀ w', Below x.u.heap.size x.u w' → C w' := fun x w' hb => by have := x.ok; subst hC; exact this.below hb
            have hfacts : ∀ x : Of C, Srt eS 67 w x.u g cap L := fun x => by have := x.ok; subst hC; exact this
            have a0 : ∀ x : Of C, x.u.cell? ⟨g, (k + 1) * 3, none⟩ = some (.int .i64 yv) := fun x => ((hfacts x).lay.get hL1).1
            have a1 : ∀ x : Of C, x.u.cell? ⟨g, (k + 1) * 3 + 1, none⟩ = some (.int .i64 yo) := fun x => ((hfacts x).lay.get hL1).2.1
            have a2 : ∀ x : Of C, x.u.cell? ⟨g, (k + 1) * 3 + 2, none⟩ = some (.string ya) := fun x => ((hfacts x).lay.get hL1).2.2
            have b0 : ∀ x : Of C, x.u.cell? ⟨g, k * 3, none⟩ = some (.int .i64 pv) := fun x => ((hfacts x).lay.get hL2).1
            have b1 : ∀ x : Of C, x.u.cell? ⟨g, k * 3 + 1, none⟩ = some (.int .i64 po) := fun x => ((hfacts x).lay.get hL2).2.1
            have b2 : ∀ x : Of C, x.u.cell? ⟨g, k * 3 + 2, none⟩ = some (.string pa) := fun x => ((hfacts x).lay.get hL2).2.2
            have HK : Hid (∀ x : Of C, Srt eS 67 w x.u g cap L) := hfacts
            haveI hne : Nonempty (Of C) := Of.some (w := wr) (by subst hC; exact hSr)
            have hC0 : C wr.drew := by subst hC; exact hSr.drew 1
            clear hC hfacts hSr hL1 hL2
            refine wp_region_class C (by kernel_rfl) (by kernel_rfl) hC0 ?_
            clear hC0
            repeat (go_big_quiet_step (first | (go_at_call 43; exact Of.call _ (c0 _) (keepC _))))
            refine wpQuiet_nil ?_
            rintro _ ⟨x, rfl⟩
            obtain ⟨wy, hwy⟩ : ∃ wy, wy = x.u := ⟨_, rfl⟩
            have hSy : Srt eS 67 w wy g cap L := hwy ▸ HK.out x
            rw [← hwy]
            clear hwy HK a0 a1 a2 b0 b1 b2 keepC x hne C
            have hSd : Hid (Srt eS 67 w wy g cap L) := hSy
            clear hSy
            go_wp2_with fail
            have HSy : Srt eS 67 w wy g cap L := hSd.out
            have HSd : Srt eS 67 w wy.drew g cap L := HSy.drew 1
            have hLi := hLs.out.2
            have hLj := hLs.out.1
            obtain ⟨x0, x1, x2⟩ := HSd.lay.get hLi
            obtain ⟨y0, y1, y2⟩ := HSd.lay.get hLj
            obtain ⟨x0', x1', x2'⟩ := HSy.lay.get hLi
            obtain ⟨y0', y1', y2'⟩ := HSy.lay.get hLj
            have hst := HSy.swp hLi hLj
            obtain ⟨z0, z1, z2⟩ := HSd.lay.mid hLi hLj (by omega) _ rfl
            obtain ⟨z0', z1', z2'⟩ := HSy.lay.mid hLi hLj (by omega) _ rfl
            simp only [eS] at hst x0 x1 x2 y0 y1 y2 x0' x1' x2' y0' y1' y2' z0 z1 z2 z0' z1' z2'
            have HST := hid hst
            clear hst
            have HCS : Hid (∀ q ∈ [((⟨g, (k + 1) * 3, none⟩ : Addr), (.int .i64 yv : Value)), (⟨g, (k + 1) * 3 + 1, none⟩, .int .i64 yo), (⟨g, (k + 1) * 3 + 2, none⟩, .string ya), (⟨g, k * 3, none⟩, .int .i64 pv), (⟨g, k * 3 + 1, none⟩, .int .i64 po), (⟨g, k * 3 + 2, none⟩, .string pa)], wy.drew.cell? q.1 = some q.2) := fun q hq => by
              simp at hq
              rcases hq with rfl | rfl | rfl | rfl | rfl | rfl
              · exact x0
              · exact x1
              · exact x2
              · exact y0
              · exact y1
              · exact y2
            have fz : ∀ q : Nat, wy.frozen? ⟨g, q, none⟩ = false := fun q => HSd.lay.frozen q
            clear hSd HSd HSy hLi hLj
            refine wp_region_any (by kernel_rfl) ?_
            refine wpAny_take (i := 0) (v := ?_) rfl (by kernel_rfl) (by kernel_rfl) (by kernel_rfl) (fun _ _ _ h => h) (Or.inl ⟨by rfl, ?_⟩) ?_
            rotate_left
            · intro u
              go_simp
              with_reducible rfl
            simp only [Act.put, List.setIfInBounds_toArray, List.set_cons_zero, List.set_cons_succ, List.getElem_toArray, List.getElem_cons_zero]
            refine wpAny_take (i := 1) (v := ?_) rfl (by kernel_rfl) (by kernel_rfl) (by kernel_rfl) (fun _ _ _ h => h) (Or.inl ⟨by rfl, ?_⟩) ?_
            rotate_left
            · intro u
              go_simp
              with_reducible rfl
            simp only [Act.put, List.setIfInBounds_toArray, List.set_cons_zero, List.set_cons_succ, List.getElem_toArray, List.getElem_cons_zero, List.getElem_cons_succ]
            refine wpAny_take (i := 2) (v := ?_) rfl (by kernel_rfl) (by kernel_rfl) (by kernel_rfl) (fun _ _ _ h => h) (Or.inl ⟨by rfl, ?_⟩) ?_
            rotate_left
            · intro u
              go_simp
              with_reducible rfl
            simp only [Act.put, List.setIfInBounds_toArray, List.set_cons_zero, List.set_cons_succ, List.getElem_toArray, List.getElem_cons_zero, List.getElem_cons_succ]
            refine wpAny_take (i := 3) (v := ?_) rfl (by kernel_rfl) (by kernel_rfl) (by kernel_rfl) (fun _ _ _ h => h) (Or.inl ⟨by rfl, ?_⟩) ?_
            rotate_left
            · intro u
              go_simp
              with_reducible rfl
            simp only [Act.put, List.setIfInBounds_toArray, List.set_cons_zero, List.set_cons_succ, List.getElem_toArray, List.getElem_cons_zero, List.getElem_cons_succ]
            refine wpAny_take (i := 4) (v := ?_) rfl (by kernel_rfl) (by kernel_rfl) (by kernel_rfl) (fun _ _ _ h => h) (Or.inl ⟨by rfl, ?_⟩) ?_
            rotate_left
            · intro u
              go_simp
              with_reducible rfl
            simp only [Act.put, List.setIfInBounds_toArray, List.set_cons_zero, List.set_cons_succ, List.getElem_toArray, List.getElem_cons_zero, List.getElem_cons_succ]
            refine wpAny_take (i := 5) (v := ?_) rfl (by kernel_rfl) (by kernel_rfl) (by kernel_rfl) (fun _ _ _ h => h) (Or.inl ⟨by rfl, ?_⟩) ?_
            rotate_left
            · intro u
              go_simp
              with_reducible rfl
            simp only [Act.put, List.setIfInBounds_toArray, List.set_cons_zero, List.set_cons_succ, List.getElem_toArray, List.getElem_cons_zero, List.getElem_cons_succ]
            refine wpAny_take (i := 6) (v := ?_) rfl (by kernel_rfl) (by kernel_rfl) (by kernel_rfl) (fun _ _ _ h => h) (Or.inl ⟨by rfl, ?_⟩) ?_
            rotate_left
            · intro u
              go_simp
              with_reducible rfl
            simp only [Act.put, List.setIfInBounds_toArray, List.set_cons_zero, List.set_cons_succ, List.getElem_toArray, List.getElem_cons_zero, List.getElem_cons_succ]
            refine wpAny_take (i := 7) (v := ?_) rfl (by kernel_rfl) (by kernel_rfl) (by kernel_rfl) (fun _ _ _ h => h) (Or.inl ⟨by rfl, ?_⟩) ?_
            rotate_left
            · intro u
              go_simp
              with_reducible rfl
            simp only [Act.put, List.setIfInBounds_toArray, List.set_cons_zero, List.set_cons_succ, List.getElem_toArray, List.getElem_cons_zero, List.getElem_cons_succ]
            refine wpAny_take (i := 8) (v := ?_) rfl (by kernel_rfl) (by kernel_rfl) (by kernel_rfl) (fun _ _ _ h => h) (Or.inl ⟨by rfl, ?_⟩) ?_
            rotate_left
            · intro u
              go_simp
              with_reducible rfl
            simp only [Act.put, List.setIfInBounds_toArray, List.set_cons_zero, List.set_cons_succ, List.getElem_toArray, List.getElem_cons_zero, List.getElem_cons_succ]
            refine wpAny_take (i := 10) (v := ?_) rfl (by kernel_rfl) (by kernel_rfl) (by kernel_rfl) (fun _ _ _ h => h) (Or.inl ⟨by rfl, ?_⟩) ?_
            rotate_left
            · intro u
              go_simp
              with_reducible rfl
            simp only [Act.put, List.setIfInBounds_toArray, List.set_cons_zero, List.set_cons_succ, List.getElem_toArray, List.getElem_cons_zero, List.getElem_cons_succ]
            refine wpAny_take (i := 11) (v := ?_) rfl (by kernel_rfl) (by kernel_rfl) (by kernel_rfl) (fun _ _ _ h => h) (Or.inl ⟨by rfl, ?_⟩) ?_
            rotate_left
            · intro u
              go_simp
              with_reducible rfl
            simp only [Act.put, List.setIfInBounds_toArray, List.set_cons_zero, List.set_cons_succ, List.getElem_toArray, List.getElem_cons_zero, List.getElem_cons_succ]
            refine wpAny_take (i := 12) (v := ?_) rfl (by kernel_rfl) (by kernel_rfl) (by kernel_rfl) (fun _ _ _ h => h) (Or.inl ⟨by rfl, ?_⟩) ?_
            rotate_left
            · intro u
              go_simp
              with_reducible rfl
            simp only [Act.put, List.setIfInBounds_toArray, List.set_cons_zero, List.set_cons_succ, List.getElem_toArray, List.getElem_cons_zero, List.getElem_cons_succ]
            refine wpAny_of_E (C := SlotsCells [(45, .pointer (some ⟨g, k * 3, none⟩)), (49, .pointer (some ⟨g, (k + 1) * 3, none⟩))] [(⟨g, (k + 1) * 3, none⟩, .int .i64 yv), (⟨g, (k + 1) * 3 + 1, none⟩, .int .i64 yo), (⟨g, (k + 1) * 3 + 2, none⟩, .string ya), (⟨g, k * 3, none⟩, .int .i64 pv), (⟨g, k * 3 + 1, none⟩, .int .i64 po), (⟨g, k * 3 + 2, none⟩, .string pa)]) (late := [15, 17]) _ _ _ _ ?_
            refine wpAnyE_take (i := 9) (v := .agg #[.int .i64 pv, .int .i64 po, .string pa]) rfl (by kernel_rfl) (by kernel_rfl) (by kernel_rfl) (by kernel_rfl) (by kernel_rfl) (by kernel_rfl) (fun _ _ _ h => h) ?_ (fun fr u h => (SlotsCells.put 46 _ (by rfl)).1 h) (fun fr u h => (SlotsCells.put 46 _ (by rfl)).2 h) ?_ ?_
            · intro fr u hh
              have e1 := hh.val (s := 45) (v := .pointer (some ⟨g, k * 3, none⟩)) (by simp)
              have d0 := hh.2 (⟨g, k * 3, none⟩, .int .i64 pv) (by simp)
              have d1 := hh.2 (⟨g, k * 3 + 1, none⟩, .int .i64 po) (by simp)
              have d2 := hh.2 (⟨g, k * 3 + 2, none⟩, .string pa) (by simp)
              exact ⟨rfl, by simp [execOp, e1, go_sem, d0, d1, d2]⟩
            · exact ⟨fun q hq => by simp at hq; rcases hq with rfl | rfl <;> rfl, HCS.out⟩
            simp only [Act.put, List.setIfInBounds_toArray, List.set_cons_zero, List.set_cons_succ, List.getElem_toArray, List.getElem_cons_zero, List.getElem_cons_succ]
            refine wpAnyE_take (i := 13) (v := .agg #[.int .i64 yv, .int .i64 yo, .string ya]) rfl (by kernel_rfl) (by kernel_rfl) (by kernel_rfl) (by kernel_rfl) (by kernel_rfl) (by kernel_rfl) (fun _ _ _ h => h) ?_ (fun fr u h => (SlotsCells.put 50 _ (by rfl)).1 h) (fun fr u h => (SlotsCells.put 50 _ (by rfl)).2 h) ?_ ?_
            · intro fr u hh
              have e1 := hh.val (s := 49) (v := .pointer (some ⟨g, (k + 1) * 3, none⟩)) (by simp)
              have d0 := hh.2 (⟨g, (k + 1) * 3, none⟩, .int .i64 yv) (by simp)
              have d1 := hh.2 (⟨g, (k + 1) * 3 + 1, none⟩, .int .i64 yo) (by simp)
              have d2 := hh.2 (⟨g, (k + 1) * 3 + 2, none⟩, .string ya) (by simp)
              exact ⟨rfl, by simp [execOp, e1, go_sem, d0, d1, d2]⟩
            · exact ⟨fun q hq => by simp at hq; rcases hq with rfl | rfl <;> rfl, HCS.out⟩
            simp only [Act.put, List.setIfInBounds_toArray, List.set_cons_zero, List.set_cons_succ, List.getElem_toArray, List.getElem_cons_zero, List.getElem_cons_succ]
            refine wpAnyE_pure (i := 14) (v := ?_) rfl (by kernel_rfl) (by kernel_rfl) (by kernel_rfl) (by kernel_rfl) (fun _ _ _ h => h) (fun fr u h => (SlotsCells.put 51 _ (by rfl)).1 h) (fun fr u h => (SlotsCells.put 51 _ (by rfl)).2 h) (.inr ⟨fun q hq => by simp at hq; rcases hq with rfl | rfl <;> rfl, HCS.out⟩) (Or.inl ⟨by rfl, ?_⟩) ?_
            rotate_left
            · intro u
              go_simp
              with_reducible rfl
            simp only [Act.put, List.setIfInBounds_toArray, List.set_cons_zero, List.set_cons_succ, List.getElem_toArray, List.getElem_cons_zero, List.getElem_cons_succ]
            refine wpAnyE_some (rs := [15]) (by kernel_rfl) (by simp) (fun i hi => ?_)
            simp only [List.mem_cons, List.not_mem_nil, or_false] at hi
            subst hi
            refine wpOp_step rfl (fun Kc hKc => ?_)
            go_simp
            refine hKc _ _ ⟨.inr (.inl rfl), ?_⟩
            clear hKc Kc
            refine wpAnyE_some (rs := [16]) (by kernel_rfl) (by simp) (fun i hi => ?_)
            simp only [List.mem_cons, List.not_mem_nil, or_false] at hi
            subst hi
            refine wpOp_step rfl (fun Kc hKc => ?_)
            go_simp
            refine hKc _ _ ⟨.inl (by kernel_rfl), ?_⟩
            clear hKc Kc
            refine wpAnyE_some (rs := [17]) (by kernel_rfl) (by simp) (fun i hi => ?_)
            simp only [List.mem_cons, List.not_mem_nil, or_false] at hi
            subst hi
            refine wpOp_step rfl (fun Kc hKc => ?_)
            go_simp
            refine hKc _ _ ⟨.inr (.inl rfl), ?_⟩
            clear hKc Kc
            refine wpAnyE_done (by kernel_rfl) ?_ _
            go_wp2_with fail
            go_roundw
            case rel => exact ⟨k, by omega, by omega, by simp, _, by rw [swp_len]; exact hL, HY.out, HST.out.drew 1⟩
            case measure => simp only [intOf]; omega
          · have HN : Hid (OutR En.ver a (i + 1) Q Mid R L) := hno hc
            have hcc : ¬ cmpI yv pv < 0 := fun h => hc ((cmpI_neg yv pv).1 h)
            generalize cmpI yv pv = cc at c0 hcc
            clear hno hyes hc hLs
            go_wp2_with fail
            obtain ⟨C, hC⟩ : ∃ C : World → Prop, C = fun u => Srt eS 67 w u g cap L := ⟨_, rfl⟩
            have keepC : ∀ x : Of C, ∀ w', Below x.u.heap.size x.u w' → C w' := fun x w' hb => by have := x.ok; subst hC; exact this.below hb
            have hfacts : ∀ x : Of C, Srt eS 67 w x.u g cap L := fun x => by have := x.ok; subst hC; exact this
            have a0 : ∀ x : Of C, x.u.cell? ⟨g, (k + 1) * 3, none⟩ = some (.int .i64 yv) := fun x => ((hfacts x).lay.get hL1).1
            have a1 : ∀ x : Of C, x.u.cell? ⟨g, (k + 1) * 3 + 1, none⟩ = some (.int .i64 yo) := fun x => ((hfacts x).lay.get hL1).2.1
            have a2 : ∀ x : Of C, x.u.cell? ⟨g, (k + 1) * 3 + 2, none⟩ = some (.string ya) := fun x => ((hfacts x).lay.get hL1).2.2
            have b0 : ∀ x : Of C, x.u.cell? ⟨g, k * 3, none⟩ = some (.int .i64 pv) := fun x => ((hfacts x).lay.get hL2).1
            have b1 : ∀ x : Of C, x.u.cell? ⟨g, k * 3 + 1, none⟩ = some (.int .i64 po) := fun x => ((hfacts x).lay.get hL2).2.1
            have b2 : ∀ x : Of C, x.u.cell? ⟨g, k * 3 + 2, none⟩ = some (.string pa) := fun x => ((hfacts x).lay.get hL2).2.2
            have HK : Hid (∀ x : Of C, Srt eS 67 w x.u g cap L) := hfacts
            haveI hne : Nonempty (Of C) := Of.some (w := wr) (by subst hC; exact hSr)
            have hC0 : C wr.drew := by subst hC; exact hSr.drew 1
            clear hC hfacts hSr hL1 hL2
            refine wp_region_class C (by kernel_rfl) (by kernel_rfl) hC0 ?_
            clear hC0
            repeat (go_big_quiet_step (first | (go_at_call 43; exact Of.call _ (c0 _) (keepC _))))
            refine wpQuiet_nil ?_
            rintro _ ⟨x, rfl⟩
            obtain ⟨wy, hwy⟩ : ∃ wy, wy = x.u := ⟨_, rfl⟩
            have hSy : Srt eS 67 w wy g cap L := hwy ▸ HK.out x
            rw [← hwy]
            clear hwy HK a0 a1 a2 b0 b1 b2 keepC x hne C
            have HSy := hid hSy
            clear hSy
            go_wp2_with fail
            go_roundw
            case rel => exact ⟨i + 1, by omega, by omega, by simp, _, hL, HN.out, HSy.out⟩
            case measure => simp only [intOf]; omega
    · have hki : ¬ (i : Int) < (b : Int) := by omega
      have HF : Hid (∃ Mid', Stb En.ver Mid Mid' ∧ Srt eS 67 w wr g cap (Q ++ Mid' ++ R)) := by
        obtain ⟨L, h1, h2, h3⟩ := hrel.out
        obtain ⟨M1, h4, rfl⟩ := h2.done _ (by have := HA.out.2.1; omega)
        exact ⟨M1, h4, h3⟩
      clear hrel
      go_wp2_with fail
      go_end0
      refine ⟨rfl, ?_⟩
      have hf := HF.out
      simp only [List.append_assoc] at hf ⊢
      exact hf
end S
end Go.Proofs.Ytlbnilendcelkaa
