/-
  Two ranges change places.
-/
import Derived.Test.YtlbnilendcelkaaIns
import Derived.Test.YtlbnilendcelkaaMrgP
namespace Go.Proofs.Ytlbnilendcelkaa
open Go.RowKit
namespace I
set_option maxRecDepth 100000 in
set_option maxHeartbeats 8000000 in
theorem swapRange_at {w0 w : World} {g cap N c : Nat} (L0 : List (En Int)) (h : Srt eI 33 w0 w g cap L0) (hN : N = L0.length) (hn : N ≤ 2000) (a b n : Nat) (ha : a + n ≤ N) (hb : b + n ≤ N) (hab : a ≠ b) (f : Value) :
    Calls Try.prog 53 #[.slice (some ⟨g, 0, none⟩) N c, .int .i64 (a : Int), .int .i64 (b : Int), .int .i64 (n : Int), f] w fun r w' => r = .returned (.tuple #[]) ∧ Srt eI 33 w0 w' g cap (swpN L0 a b n) := by
  have HS0 : Hid (Srt eI 33 w0 w g cap L0) := h
  have HN : Hid (N = L0.length) := hN
  clear h hN
  go_enter Try.func53, Try.ntmps53
  go_wp2_with fail
  go_loopw [10] (fun v u => ∃ i : Nat, i ≤ n ∧ v = .int .i64 (i : Int) ∧ Hid (Srt eI 33 w0 u g cap (swpN L0 a b i))) (fun v _ => n - (intOf v).toNat)
  case atStart => exact ⟨0, Nat.zero_le _, rfl, HS0.out⟩
  case round =>
    obtain ⟨i, hi, rfl, hrel⟩ := hrel
    by_cases hlt : i < n
    · have hki : (i : Int) < (n : Int) := by omega
      obtain ⟨L, hL⟩ : ∃ L, L = swpN L0 a b i := ⟨_, rfl⟩
      have hLl : L.length = N := by rw [hL, swpN_len]; exact HN.out.symm
      have hSr : Srt eI 33 w0 wr g cap L := hL ▸ hrel.out
      have HNX : Hid (swpN L0 a b (i + 1) = swp L (a + i) (b + i)) := by unfold Hid; rw [swpN, ← hL]
      clear hL hrel
      obtain ⟨⟨xv, xo, xa⟩, hx⟩ : ∃ x, L[a + i]? = some x := ⟨L[a + i], by simp [hLl, show a + i < N by omega]⟩
      obtain ⟨⟨yv, yo, ya⟩, hy⟩ : ∃ y, L[b + i]? = some y := ⟨L[b + i], by simp [hLl, show b + i < N by omega]⟩
      have hLs : Hid (L[a + i]? = some ⟨xv, xo, xa⟩ ∧ L[b + i]? = some ⟨yv, yo, ya⟩) := ⟨hx, hy⟩
      have r1 : IntKind.i64.wrap ((a : Int) + (i : Int)) = (a : Int) + (i : Int) := by rw [IntKind.wrap_i64]; omega
      have r2 : IntKind.i64.wrap ((b : Int) + (i : Int)) = (b : Int) + (i : Int) := by rw [IntKind.wrap_i64]; omega
      have r3 : (a : Int) + (i : Int) < (N : Int) := by omega
      have r4 : (b : Int) + (i : Int) < (N : Int) := by omega
      have r5 : (0 : Int) ≤ (a : Int) + (i : Int) := by omega
      have r6 : (0 : Int) ≤ (b : Int) + (i : Int) := by omega
      have r7 : ((a : Int) + (i : Int)).toNat = a + i := by omega
      have r8 : ((b : Int) + (i : Int)).toNat = b + i := by omega
      have hSd : Hid (Srt eI 33 w0 wr g cap L) := hSr
      clear hSr hx hy hLl
      go_wp2_with fail
      obtain ⟨wy, hwy⟩ : ∃ wy, wy = wr := ⟨_, rfl⟩
      subst hwy
      have HSy : Srt eI 33 w0 wy g cap L := hSd.out
      have HSd : Srt eI 33 w0 wy.drew g cap L := HSy.drew 1
      have hLi := hLs.out.1
      have hLj := hLs.out.2
      have hne : a + i ≠ b + i := by omega
      obtain ⟨x0, x1, x2⟩ := HSd.lay.get hLi
      obtain ⟨y0, y1, y2⟩ := HSd.lay.get hLj
      obtain ⟨x0', x1', x2'⟩ := HSy.lay.get hLi
      obtain ⟨y0', y1', y2'⟩ := HSy.lay.get hLj
      have hst := HSy.swp hLi hLj
      obtain ⟨z0, z1, z2⟩ := HSd.lay.mid hLi hLj hne _ rfl
      obtain ⟨z0', z1', z2'⟩ := HSy.lay.mid hLi hLj hne _ rfl
      simp only [eI] at hst x0 x1 x2 y0 y1 y2 x0' x1' x2' y0' y1' y2' z0 z1 z2 z0' z1' z2'
      have HST := hid hst
      clear hst
      have HCS : Hid (∀ q ∈ [((⟨g, (a + i) * 3, none⟩ : Addr), (.int .i64 xv : Value)), (⟨g, (a + i) * 3 + 1, none⟩, .int .i64 xo), (⟨g, (a + i) * 3 + 2, none⟩, .int .i64 xa), (⟨g, (b + i) * 3, none⟩, .int .i64 yv), (⟨g, (b + i) * 3 + 1, none⟩, .int .i64 yo), (⟨g, (b + i) * 3 + 2, none⟩, .int .i64 ya)], wy.drew.cell? q.1 = some q.2) := fun q hq => by
        simp at hq
        rcases hq with rfl | rfl | rfl | rfl | rfl | rfl
        · exact x0
        · exact x1
        · exact x2
        · exact y0
        · exact y1
        · exact y2
      have fz : ∀ q : Nat, wy.frozen? ⟨g, q, none⟩ = false := fun q => HSd.lay.frozen q
      clear hSd HSd HSy hLi hLj hne
      refine wp_region_any (by kernel_rfl) ?_
      refine wpAny_take (i := 0) (v := ?_) rfl (by kernel_rfl) (by kernel_rfl) (by kernel_rfl) (fun _ _ _ h => h) (Or.inl ⟨by rfl, ?_⟩) ?_
      rotate_left
      · intro u
        go_simp
        with_reducible rfl
      simp only [Act.put, List.setIfInBounds_toArray, List.set_cons_zero, List.set_cons_succ, List.getElem_toArray, List.getElem_cons_zero]
      refine wpAny_take (i := 1) (v := ?_) rfl (by kernel_rfl) (by kernel_rfl) (by kernel_rfl) (fun _ _ _ h => h) (Or.inl ⟨by rfl, ?_⟩) ?_
      rotate_left
      · intro u
        go_simp
        with_reducible rfl
      simp only [Act.put, List.setIfInBounds_toArray, List.set_cons_zero, List.set_cons_succ, List.getElem_toArray, List.getElem_cons_zero, List.getElem_cons_succ]
      refine wpAny_take (i := 2) (v := ?_) rfl (by kernel_rfl) (by kernel_rfl) (by kernel_rfl) (fun _ _ _ h => h) (Or.inl ⟨by rfl, ?_⟩) ?_
      rotate_left
      · intro u
        go_simp
        with_reducible rfl
      simp only [Act.put, List.setIfInBounds_toArray, List.set_cons_zero, List.set_cons_succ, List.getElem_toArray, List.getElem_cons_zero, List.getElem_cons_succ]
      refine wpAny_take (i := 3) (v := ?_) rfl (by kernel_rfl) (by kernel_rfl) (by kernel_rfl) (fun _ _ _ h => h) (Or.inl ⟨by rfl, ?_⟩) ?_
      rotate_left
      · intro u
        go_simp
        with_reducible rfl
      simp only [Act.put, List.setIfInBounds_toArray, List.set_cons_zero, List.set_cons_succ, List.getElem_toArray, List.getElem_cons_zero, List.getElem_cons_succ]
      refine wpAny_take (i := 4) (v := ?_) rfl (by kernel_rfl) (by kernel_rfl) (by kernel_rfl) (fun _ _ _ h => h) (Or.inl ⟨by rfl, ?_⟩) ?_
      rotate_left
      · intro u
        go_simp
        with_reducible rfl
      simp only [Act.put, List.setIfInBounds_toArray, List.set_cons_zero, List.set_cons_succ, List.getElem_toArray, List.getElem_cons_zero, List.getElem_cons_succ]
      refine wpAny_take (i := 5) (v := ?_) rfl (by kernel_rfl) (by kernel_rfl) (by kernel_rfl) (fun _ _ _ h => h) (Or.inl ⟨by rfl, ?_⟩) ?_
      rotate_left
      · intro u
        go_simp
        with_reducible rfl
      simp only [Act.put, List.setIfInBounds_toArray, List.set_cons_zero, List.set_cons_succ, List.getElem_toArray, List.getElem_cons_zero, List.getElem_cons_succ]
      refine wpAny_take (i := 6) (v := ?_) rfl (by kernel_rfl) (by kernel_rfl) (by kernel_rfl) (fun _ _ _ h => h) (Or.inl ⟨by rfl, ?_⟩) ?_
      rotate_left
      · intro u
        go_simp
        with_reducible rfl
      simp only [Act.put, List.setIfInBounds_toArray, List.set_cons_zero, List.set_cons_succ, List.getElem_toArray, List.getElem_cons_zero, List.getElem_cons_succ]
      refine wpAny_take (i := 7) (v := ?_) rfl (by kernel_rfl) (by kernel_rfl) (by kernel_rfl) (fun _ _ _ h => h) (Or.inl ⟨by rfl, ?_⟩) ?_
      rotate_left
      · intro u
        go_simp
        with_reducible rfl
      simp only [Act.put, List.setIfInBounds_toArray, List.set_cons_zero, List.set_cons_succ, List.getElem_toArray, List.getElem_cons_zero, List.getElem_cons_succ]
      refine wpAny_take (i := 8) (v := ?_) rfl (by kernel_rfl) (by kernel_rfl) (by kernel_rfl) (fun _ _ _ h => h) (Or.inl ⟨by rfl, ?_⟩) ?_
      rotate_left
      · intro u
        go_simp
        with_reducible rfl
      simp only [Act.put, List.setIfInBounds_toArray, List.set_cons_zero, List.set_cons_succ, List.getElem_toArray, List.getElem_cons_zero, List.getElem_cons_succ]
      refine wpAny_take (i := 9) (v := ?_) rfl (by kernel_rfl) (by kernel_rfl) (by kernel_rfl) (fun _ _ _ h => h) (Or.inl ⟨by rfl, ?_⟩) ?_
      rotate_left
      · intro u
        go_simp
        with_reducible rfl
      simp only [Act.put, List.setIfInBounds_toArray, List.set_cons_zero, List.set_cons_succ, List.getElem_toArray, List.getElem_cons_zero, List.getElem_cons_succ]
      refine wpAny_take (i := 10) (v := ?_) rfl (by kernel_rfl) (by kernel_rfl) (by kernel_rfl) (fun _ _ _ h => h) (Or.inl ⟨by rfl, ?_⟩) ?_
      rotate_left
      · intro u
        go_simp
        with_reducible rfl
      simp only [Act.put, List.setIfInBounds_toArray, List.set_cons_zero, List.set_cons_succ, List.getElem_toArray, List.getElem_cons_zero, List.getElem_cons_succ]
      refine wpAny_take (i := 11) (v := ?_) rfl (by kernel_rfl) (by kernel_rfl) (by kernel_rfl) (fun _ _ _ h => h) (Or.inl ⟨by rfl, ?_⟩) ?_
      rotate_left
      · intro u
        go_simp
        with_reducible rfl
      simp only [Act.put, List.setIfInBounds_toArray, List.set_cons_zero, List.set_cons_succ, List.getElem_toArray, List.getElem_cons_zero, List.getElem_cons_succ]
      refine wpAny_take (i := 12) (v := ?_) rfl (by kernel_rfl) (by kernel_rfl) (by kernel_rfl) (fun _ _ _ h => h) (Or.inl ⟨by rfl, ?_⟩) ?_
      rotate_left
      · intro u
        go_simp
        with_reducible rfl
      simp only [Act.put, List.setIfInBounds_toArray, List.set_cons_zero, List.set_cons_succ, List.getElem_toArray, List.getElem_cons_zero, List.getElem_cons_succ]
      refine wpAny_take (i := 14) (v := ?_) rfl (by kernel_rfl) (by kernel_rfl) (by kernel_rfl) (fun _ _ _ h => h) (Or.inl ⟨by rfl, ?_⟩) ?_
      rotate_left
      · intro u
        go_simp
        with_reducible rfl
      simp only [Act.put, List.setIfInBounds_toArray, List.set_cons_zero, List.set_cons_succ, List.getElem_toArray, List.getElem_cons_zero, List.getElem_cons_succ]
      refine wpAny_take (i := 15) (v := ?_) rfl (by kernel_rfl) (by kernel_rfl) (by kernel_rfl) (fun _ _ _ h => h) (Or.inl ⟨by rfl, ?_⟩) ?_
      rotate_left
      · intro u
        go_simp
        with_reducible rfl
      simp only [Act.put, List.setIfInBounds_toArray, List.set_cons_zero, List.set_cons_succ, List.getElem_toArray, List.getElem_cons_zero, List.getElem_cons_succ]
      refine wpAny_take (i := 16) (v := ?_) rfl (by kernel_rfl) (by kernel_rfl) (by kernel_rfl) (fun _ _ _ h => h) (Or.inl ⟨by rfl, ?_⟩) ?_
      rotate_left
      · intro u
        go_simp
        with_reducible rfl
      simp only [Act.put, List.setIfInBounds_toArray, List.set_cons_zero, List.set_cons_succ, List.getElem_toArray, List.getElem_cons_zero, List.getElem_cons_succ]
      refine wpAny_take (i := 17) (v := ?_) rfl (by kernel_rfl) (by kernel_rfl) (by kernel_rfl) (fun _ _ _ h => h) (Or.inl ⟨by rfl, ?_⟩) ?_
      rotate_left
      · intro u
        go_simp
        with_reducible rfl
      simp only [Act.put, List.setIfInBounds_toArray, List.set_cons_zero, List.set_cons_succ, List.getElem_toArray, List.getElem_cons_zero, List.getElem_cons_succ]
      refine wpAny_take (i := 18) (v := ?_) rfl (by kernel_rfl) (by kernel_rfl) (by kernel_rfl) (fun _ _ _ h => h) (Or.inl ⟨by rfl, ?_⟩) ?_
      rotate_left
      · intro u
        go_simp
        with_reducible rfl
      simp only [Act.put, List.setIfInBounds_toArray, List.set_cons_zero, List.set_cons_succ, List.getElem_toArray, List.getElem_cons_zero, List.getElem_cons_succ]
      refine wpAny_of_E (C := SlotsCells [(28, .pointer (some ⟨g, (b + i) * 3, none⟩)), (34, .pointer (some ⟨g, (a + i) * 3, none⟩))] [(⟨g, (a + i) * 3, none⟩, .int .i64 xv), (⟨g, (a + i) * 3 + 1, none⟩, .int .i64 xo), (⟨g, (a + i) * 3 + 2, none⟩, .int .i64 xa), (⟨g, (b + i) * 3, none⟩, .int .i64 yv), (⟨g, (b + i) * 3 + 1, none⟩, .int .i64 yo), (⟨g, (b + i) * 3 + 2, none⟩, .int .i64 ya)]) (late := [21, 23]) _ _ _ _ ?_
      refine wpAnyE_take (i := 13) (v := .agg #[.int .i64 yv, .int .i64 yo, .int .i64 ya]) rfl (by kernel_rfl) (by kernel_rfl) (by kernel_rfl) (by kernel_rfl) (by kernel_rfl) (by kernel_rfl) (fun _ _ _ h => h) ?_ (fun fr u h => (SlotsCells.put 29 _ (by rfl)).1 h) (fun fr u h => (SlotsCells.put 29 _ (by rfl)).2 h) ?_ ?_
      · intro fr u hh
        have e1 := hh.val (s := 28) (v := .pointer (some ⟨g, (b + i) * 3, none⟩)) (by simp)
        have d0 := hh.2 (⟨g, (b + i) * 3, none⟩, .int .i64 yv) (by simp)
        have d1 := hh.2 (⟨g, (b + i) * 3 + 1, none⟩, .int .i64 yo) (by simp)
        have d2 := hh.2 (⟨g, (b + i) * 3 + 2, none⟩, .int .i64 ya) (by simp)
        exact ⟨rfl, by simp [execOp, e1, go_sem, d0, d1, d2]⟩
      · exact ⟨fun q hq => by simp at hq; rcases hq with rfl | rfl <;> rfl, HCS.out⟩
      simp only [Act.put, List.setIfInBounds_toArray, List.set_cons_zero, List.set_cons_succ, List.getElem_toArray, List.getElem_cons_zero, List.getElem_cons_succ]
      refine wpAnyE_take (i := 19) (v := .agg #[.int .i64 xv, .int .i64 xo, .int .i64 xa]) rfl (by kernel_rfl) (by kernel_rfl) (by kernel_rfl) (by kernel_rfl) (by kernel_rfl) (by kernel_rfl) (fun _ _ _ h => h) ?_ (fun fr u h => (SlotsCells.put 35 _ (by rfl)).1 h) (fun fr u h => (SlotsCells.put 35 _ (by rfl)).2 h) ?_ ?_
      · intro fr u hh
        have e1 := hh.val (s := 34) (v := .pointer (some ⟨g, (a + i) * 3, none⟩)) (by simp)
        have d0 := hh.2 (⟨g, (a + i) * 3, none⟩, .int .i64 xv) (by simp)
        have d1 := hh.2 (⟨g, (a + i) * 3 + 1, none⟩, .int .i64 xo) (by simp)
        have d2 := hh.2 (⟨g, (a + i) * 3 + 2, none⟩, .int .i64 xa) (by simp)
        exact ⟨rfl, by simp [execOp, e1, go_sem, d0, d1, d2]⟩
      · exact ⟨fun q hq => by simp at hq; rcases hq with rfl | rfl <;> rfl, HCS.out⟩
      simp only [Act.put, List.setIfInBounds_toArray, List.set_cons_zero, List.set_cons_succ, List.getElem_toArray, List.getElem_cons_zero, List.getElem_cons_succ]
      refine wpAnyE_pure (i := 20) (v := ?_) rfl (by kernel_rfl) (by kernel_rfl) (by kernel_rfl) (by kernel_rfl) (fun _ _ _ h => h) (fun fr u h => (SlotsCells.put 36 _ (by rfl)).1 h) (fun fr u h => (SlotsCells.put 36 _ (by rfl)).2 h) (.inr ⟨fun q hq => by simp at hq; rcases hq with rfl | rfl <;> rfl, HCS.out⟩) (Or.inl ⟨by rfl, ?_⟩) ?_
      rotate_left
      · intro u
        go_simp
        with_reducible rfl
      simp only [Act.put, List.setIfInBounds_toArray, List.set_cons_zero, List.set_cons_succ, List.getElem_toArray, List.getElem_cons_zero, List.getElem_cons_succ]
      refine wpAnyE_some (rs := [21]) (by kernel_rfl) (by simp) (fun i hi => ?_)
      simp only [List.mem_cons, List.not_mem_nil, or_false] at hi
      subst hi
      refine wpOp_step rfl (fun Kc hKc => ?_)
      go_simp
      refine hKc _ _ ⟨.inr (.inl rfl), ?_⟩
      clear hKc Kc
      refine wpAnyE_some (rs := [22]) (by kernel_rfl) (by simp) (fun i hi => ?_)
      simp only [List.mem_cons, List.not_mem_nil, or_false] at hi
      subst hi
      refine wpOp_step rfl (fun Kc hKc => ?_)
      go_simp
      refine hKc _ _ ⟨.inl (by kernel_rfl), ?_⟩
      clear hKc Kc
      refine wpAnyE_some (rs := [23]) (by kernel_rfl) (by simp) (fun i hi => ?_)
      simp only [List.mem_cons, List.not_mem_nil, or_false] at hi
      subst hi
      refine wpOp_step rfl (fun Kc hKc => ?_)
      go_simp
      refine hKc _ _ ⟨.inr (.inl rfl), ?_⟩
      clear hKc Kc
      refine wpAnyE_done (by kernel_rfl) ?_ _
      go_wp2_with fail
      go_roundw
      case rel => exact ⟨i + 1, by omega, by simp, by rw [HNX.out]; exact HST.out.drew 1⟩
      case measure => simp only [intOf]; omega
    · have hki : ¬ (i : Int) < (n : Int) := by omega
      have HF : Hid (Srt eI 33 w0 wr g cap (swpN L0 a b n)) := by
        have : i = n := by omega
        subst this; exact hrel.out
      clear hrel
      go_wp2_with fail
      go_end0
      exact ⟨rfl, HF.out⟩
end I
end Go.Proofs.Ytlbnilendcelkaa
