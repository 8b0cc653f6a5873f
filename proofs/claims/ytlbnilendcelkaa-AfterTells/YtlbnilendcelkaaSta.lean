/-
  SortStableFunc: blocks, then merges.
-/
import Derived.Test.YtlbnilendcelkaaSym
import Derived.Test.YtlbnilendcelkaaStaP
namespace Go.Proofs.Ytlbnilendcelkaa
open Go.RowKit
namespace I
set_option maxRecDepth 100000 in
set_option maxHeartbeats 8000000 in
theorem stable_at {w0 w : World} {g cap N c : Nat} (X : List (En Int)) (h : Srt eI 33 w0 w g cap X) (hN : N = X.length) (hn : N ≤ 2000) :
    Calls Try.prog 37 #[.slice (some ⟨g, 0, none⟩) N c, .int .i64 (N : Int), .func (.func 28) #[] #[]] w fun r w' => r = .returned (.tuple #[]) ∧ ∃ L, Stb En.ver X L ∧ Srt eI 33 w0 w' g cap L := by
  have HS := hid h
  have HN := hid hN
  clear h hN
  go_enter Try.func37, Try.ntmps37
  go_wp2_with fail
  go_loopw [7, 8] (fun v v' u => ∃ a b : Nat, b = a + 20 ∧ a ≤ N ∧ v = .int .i64 (a : Int) ∧ v' = .int .i64 (b : Int) ∧ Hid (∃ L, Ph1 En.ver 20 X L a ∧ Srt eI 33 w0 u g cap L)) (fun v v' _ => N + 1 - (intOf v).toNat)
  case atStart => exact ⟨0, 20, rfl, Nat.zero_le _, by simp, by simp, X, Ph1.start _ _ _, HS.out⟩
  case round =>
    obtain ⟨a, b, hb, haN, rfl, rfl, hrel⟩ := hrel
    obtain ⟨L, hP, hSr⟩ := hrel.out
    have hl := hP.len
    by_cases hlt : b ≤ N
    · have hki : (b : Int) ≤ (N : Int) := by omega
      obtain ⟨Q, Mid, S, hL, ha, hm, hgo⟩ := hP.go _ (by have := HN.out; omega)
      subst hL
      have c0 := I.insertion_at (c := c) (N := N) Q Mid S hSr.lay (by rw [hl.1]; exact HN.out) hn a b ha (by omega)
      have HG : Hid (∀ u, (∃ Mid', Stb En.ver Mid Mid' ∧ Srt eI 33 wr u g cap (Q ++ Mid' ++ S)) → ∃ L, Ph1 En.ver 20 X L b ∧ Srt eI 33 w0 u g cap L) := fun u ⟨M', h1, h2⟩ => ⟨_, by rw [hb]; exact hgo _ h1, hSr.trans h2⟩
      have r1 : IntKind.i64.wrap ((b : Int) + 20) = (b : Int) + 20 := by rw [IntKind.wrap_i64]; omega
      have HB := hid hb
      clear hP hSr hrel hl hb ha hm hgo
      go_wp2_with (go_at_call 46; refine c0.mono ?_; rintro _ w' ⟨rfl, hS'⟩; replace hS' := HG.out _ hS'; have HS' := hid hS'; clear hS' c0)
      go_roundw
      case rel => exact ⟨b, b + 20, rfl, hlt, rfl, by simp, HS'.out⟩
      case measure => have := HB.out; simp only [intOf]; omega
    · have hki : ¬ (b : Int) ≤ (N : Int) := by omega
      obtain ⟨Q, Mid, hL, ha, hm, hgo⟩ := hP.fin _ (by have := HN.out; omega)
      subst hL
      have c0 := I.insertion_at (c := c) (N := N) Q Mid [] hSr.lay (by rw [hl.1]; exact HN.out) hn a N ha (by have := HN.out; omega)
      have HG : Hid (∀ u, (∃ Mid', Stb En.ver Mid Mid' ∧ Srt eI 33 wr u g cap (Q ++ Mid' ++ [])) → ∃ L, Ph2 En.ver 20 X L ∧ Srt eI 33 w0 u g cap L) := fun u ⟨M', h1, h2⟩ => ⟨_, hgo _ h1, hSr.trans h2⟩
      clear hP hSr hrel hl hb ha hm hgo
      go_wp2_with (go_at_call 46; refine c0.mono ?_; rintro _ w' ⟨rfl, hS'⟩; replace hS' := HG.out _ hS'; have HS' := hid hS'; clear hS' c0 HG)
      clear HS
      go_loopw [6] (fun v u => ∃ z : Nat, 0 < z ∧ z ≤ 4000 ∧ v = .int .i64 (z : Int) ∧ Hid (∃ L, Ph2 En.ver z X L ∧ Srt eI 33 w0 u g cap L)) (fun v _ => N - (intOf v).toNat)
      case atStart => exact ⟨20, by omega, by omega, by simp, HS'.out⟩
      case round =>
        obtain ⟨z, hz0, hz1, rfl, hrel⟩ := hrel
        by_cases hlt : z < N
        · have hki : (z : Int) < (N : Int) := by omega
          have r2 : IntKind.i64.wrap (2 * (z : Int)) = 2 * (z : Int) := by rw [IntKind.wrap_i64]; omega
          have HQ := hid hrel.out
          clear hrel HS'
          go_wp2_with fail
          go_loopw [7, 8] (fun v v' u => ∃ a b : Nat, b = a + 2 * z ∧ a ≤ N ∧ v = .int .i64 (a : Int) ∧ v' = .int .i64 (b : Int) ∧ Hid (∃ L, Ph3 En.ver z X L a ∧ Srt eI 33 w0 u g cap L)) (fun v v' _ => N + 1 - (intOf v).toNat)
          case atStart => exact ⟨0, 2 * z, by omega, Nat.zero_le _, by simp, by simp, by obtain ⟨L, h1, h2⟩ := HQ.out; exact ⟨L, h1.pairs, h2⟩⟩
          case round =>
            clear HQ
            obtain ⟨a, b, hb, haN, rfl, rfl, hrel⟩ := hrel
            obtain ⟨L, hP, hSr⟩ := hrel.out
            have hl := hP.len
            have r3 : IntKind.i64.wrap ((a : Int) + (z : Int)) = ((a + z : Nat) : Int) := by rw [IntKind.wrap_i64]; omega
            by_cases hbn : b ≤ N
            · have hki2 : (b : Int) ≤ (N : Int) := by omega
              obtain ⟨P, U, V, S, hL, hT, hgo⟩ := hP.go _ hz0 (by have := HN.out; omega)
              subst hL
              have c0 := symMerge_at (c := c) (N := N) hn _ P U V S a (a + z) (a + 2 * z) wr (Nat.le_refl _) hSr (by rw [hl.1]; exact HN.out) hT
              rw [← hb] at c0 hgo
              generalize a + z = az at *
              have HG : Hid (∀ u, Srt eI 33 w0 u g cap (P ++ mrg En.ver U V ++ S) → ∃ L, Ph3 En.ver z X L b ∧ Srt eI 33 w0 u g cap L) := fun u h2 => ⟨_, hgo, h2⟩
              have r4 : IntKind.i64.wrap ((b : Int) + 2 * (z : Int)) = (b : Int) + 2 * (z : Int) := by rw [IntKind.wrap_i64]; omega
              have HB := hid hb
              clear hP hSr hrel hl hb hT hgo
              go_wp2_with (go_at_call 47; refine c0.mono ?_; rintro _ w' ⟨rfl, hS'⟩; replace hS' := HG.out _ hS'; have HS' := hid hS'; clear hS' c0 HG)
              go_roundw
              case rel => exact ⟨b, b + 2 * z, rfl, hbn, rfl, by simp, HS'.out⟩
              case measure => have := HB.out; simp only [intOf]; omega
            · have hki2 : ¬ (b : Int) ≤ (N : Int) := by omega
              have hfin := hP.fin _ hz0 (by have := HN.out; omega)
              rw [← HN.out] at hfin
              have r5 : IntKind.i64.wrap ((z : Int) * 2) = (z : Int) * 2 := by rw [IntKind.wrap_i64]; omega
              by_cases ham : a + z < N
              · have hki3 : ((a + z : Nat) : Int) < (N : Int) := by omega
                obtain ⟨P, U, V, hL, hT, hgo⟩ := hfin.1 ham
                subst hL
                have c0 := symMerge_at (c := c) (N := N) hn _ P U V [] a (a + z) N wr (Nat.le_refl _) hSr (by rw [hl.1]; exact HN.out) hT
                have HG : Hid (∀ u, Srt eI 33 w0 u g cap (P ++ mrg En.ver U V ++ []) → ∃ L, Ph2 En.ver (2 * z) X L ∧ Srt eI 33 w0 u g cap L) := fun u h2 => ⟨_, hgo, h2⟩
                generalize a + z = az at *
                clear hP hSr hrel hl hb hT hgo hfin ham
                go_wp2_with (go_at_call 47; refine c0.mono ?_; rintro _ w' ⟨rfl, hS'⟩; replace hS' := HG.out _ hS'; have HS' := hid hS'; clear hS' c0 HG)
                go_roundw
                case rel => exact ⟨2 * z, by omega, by omega, by simp; omega, HS'.out⟩
                case measure => simp only [intOf]; omega
              · have hki3 : ¬ ((a + z : Nat) : Int) < (N : Int) := by omega
                have HS' : Hid (∃ L, Ph2 En.ver (2 * z) X L ∧ Srt eI 33 w0 wr g cap L) := ⟨L, hfin.2 ham, hSr⟩
                generalize a + z = az at *
                clear hP hSr hrel hl hb hfin ham
                go_wp2_with fail
                go_roundw
                case rel => exact ⟨2 * z, by omega, by omega, by simp; omega, HS'.out⟩
                case measure => simp only [intOf]; omega
        · have hki : ¬ (z : Int) < (N : Int) := by omega
          have HF : Hid (∃ L, Stb En.ver X L ∧ Srt eI 33 w0 wr g cap L) := by
            obtain ⟨L, h1, h2⟩ := hrel.out
            exact ⟨L, h1.done _ (by have := HN.out; omega), h2⟩
          clear hrel HS'
          go_wp2_with fail
          go_end0
          exact ⟨rfl, HF.out⟩
end I
end Go.Proofs.Ytlbnilendcelkaa
