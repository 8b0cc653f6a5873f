/-
  The document's Back.
-/
import Derived.Test.YtlbnilendcelkaaRf2
namespace Go.Proofs.Ytlbnilendcelkaa
open Go.RowKit
set_option maxHeartbeats 1600000 in
set_option maxRecDepth 100000 in
theorem rback_at {w : World} {B r : Nat} {S : QS Int} {F : Nat → Prop} (h0 : HasR w B r S F) (o m : Int) :
    Calls Try.prog 16 #[ptr r, .int .i64 o, .int .i64 m] w fun e w' => e = .returned (.int .i64 (S.back o m).1) ∧ ToR w B r (S.back o m).2 F w' := by
  by_cases hm : m < 0
  · have e : S.back o m = (0, S) := by unfold QS.back; rw [if_pos hm]
    rw [e]
    have HS := hid (ToR.same h0 (Below.refl _ _))
    clear h0 e
    unfold ptr at *
    go_enter Try.func16, Try.ntmps16
    go_wp2_with fail
    go_ret
    exact ⟨rfl, HS.out⟩
  have e : S.back o m = (((sel (bks S.wait o m) S.wait).length : Int), ⟨sel (fun j => !bks S.wait o m j) S.wait, S.due⟩) := by unfold QS.back; rw [if_neg hm]
  rw [e]
  clear e
  obtain ⟨vw, vd, h, hri⟩ := h0
  have c1 : w.cell? ⟨r, 0, none⟩ = some vw := h.box.cell 0
  obtain ⟨nw, hnw⟩ : ∃ nw, nw = S.wait.length := ⟨_, rfl⟩
  obtain ⟨aw, cw, hvw⟩ := ownsRow_slice h.rw
  rw [← hnw] at hvw
  have hnl : nw ≤ 1024 := by have := h.rm; omega
  have HR := hid (And.intro h hri)
  have HN := hid (And.intro hnw hvw)
  rw [hvw] at c1
  have hrl := h.box.lt
  clear h hnw hvw hri
  obtain ⟨i0, hi0, hz0, hz1, hz2⟩ := info_parts infoR
  unfold ptr at *
  go_enter Try.func16, Try.ntmps16
  go_wp2_with fail
  go_loopw [7, 8, 9, 10] (fun va c d i u => ∃ k : Nat, k ≤ nw ∧ i = .int .i64 (k : Int) ∧ c = .int .i64 ((((S.wait.take k).filter fun e => decide (e.own = o)).length : Nat) : Int) ∧ d = .int .i64 (((sel (bks S.wait o m) (S.wait.take k)).length : Nat) : Int) ∧ Hid (Twr w u va (.slice none 0 0) (sel (fun j => !bks S.wait o m j) (S.wait.take k)) [])) (fun _ _ _ i _ => nw - (intOf i).toNat)
  case atStart => exact ⟨0, Nat.zero_le _, by simp, by simp, by simp [sel], by simp only [List.take_zero]; exact Twr.start w⟩
  case round =>
    obtain ⟨k, hk, rfl, rfl, rfl, hrel⟩ := hrel
    have htw := hrel.out
    have c1x : wr.cell? ⟨r, 0, none⟩ = some (.slice aw nw cw) := (htw.1.cell (p := ⟨r, 0, none⟩) hrl).trans c1
    by_cases hlt : k < nw
    · have hkD : k < S.wait.length := by rw [← HN.out.1]; exact hlt
      have hki : (k : Int) < (nw : Int) := by omega
      have hx := List.getElem?_eq_getElem hkD
      have htk : S.wait.take (k + 1) = S.wait.take k ++ [S.wait[k]] := List.take_succ_eq_append_getElem hkD
      have hs1 := sel_take (fun j => !bks S.wait o m j) S.wait k hkD
      have hs2 := sel_take (bks S.wait o m) S.wait k hkD
      have hbk : bks S.wait o m k = (decide (S.wait[k].own = o) && decide (m < (((S.wait.take (k + 1)).filter fun e => decide (e.own = o)).length : Int))) := by
        unfold bks; simp only [List.getElem?_eq_getElem hkD]
      obtain ⟨xe, hxe⟩ : ∃ xe, xe = S.wait[k]'hkD := ⟨_, rfl⟩
      rw [← hxe] at hx htk hs1 hs2 hbk
      obtain ⟨xv, xo, xa⟩ := xe
      dsimp only at hbk
      rcases HR.out.1.rw.lay with ⟨hv0, _⟩ | ⟨b1, cap1, hv1, _, l1⟩
      · rw [HN.out.2] at hv0; injection hv0 with _ hz; omega
      rw [HN.out.2, ← HN.out.1] at hv1
      injection hv1 with e1 _ e2
      subst e1 e2
      have l1x := l1.at' (htw.1.block b1 l1.lt)
      obtain ⟨x0, x1, x2⟩ := l1x.get hx
      simp only [eR] at x0 x1 x2
      have hls : ∀ p : Nat → Bool, (sel p (S.wait.take k)).length ≤ 1024 := fun p => by
        have := (sel_sub p (S.wait.take k)).length_le
        have := List.length_take_le k S.wait
        omega
      have hls1 := hls (fun j => !bks S.wait o m j)
      have hls2 := hls (bks S.wait o m)
      have hcl : ((S.wait.take k).filter fun e => decide (e.own = o)).length ≤ 1024 := by
        have := List.length_filter_le (fun e : En Int => decide (e.own = o)) (S.wait.take k)
        have := List.length_take_le k S.wait
        omega
      obtain ⟨cc, hcc⟩ : ∃ cc, cc = ((S.wait.take k).filter fun e => decide (e.own = o)).length := ⟨_, rfl⟩
      have hcn : ((S.wait.take (k + 1)).filter fun e => decide (e.own = o)).length = cc + if xo = o then 1 else 0 := by
        rw [htk, List.filter_append, List.length_append, ← hcc]
        by_cases h : xo = o <;> simp [h]
      rw [hcn] at hbk
      obtain ⟨nn, hnn⟩ : ∃ nn, nn = (sel (bks S.wait o m) (S.wait.take k)).length := ⟨_, rfl⟩
      rw [← hcc] at hcl ⊢
      rw [← hnn] at hls2 ⊢
      have hs2l : (sel (bks S.wait o m) (S.wait.take (k + 1))).length = nn + if bks S.wait o m k then 1 else 0 := by
        rw [hs2, List.length_append, ← hnn]; split <;> simp
      generalize sel (fun j => !bks S.wait o m j) (S.wait.take k) = LA at *
      clear hx htk hxe l1 l1x hrel c1 hrl hs2 hls hcc hnn hk
      by_cases ho : xo = o
      · subst ho
        by_cases hgt : m < (cc : Int) + 1
        · have hgt2 : (cc : Int) + 1 > m := hgt
          have hbv : bks S.wait xo m k = true := by rw [hbk]; simp; omega
          rw [hbv] at hs1 hs2l
          simp at hs1 hs2l hcn
          have HF := hid (And.intro hs1 (And.intro hs2l (And.intro hcn htw)))
          clear hs1 hs2l hcn hbk hbv htw
          go_wp2_with fail
          go_roundw
          case rel => exact ⟨k + 1, by omega, by simp, by rw [HF.out.2.2.1]; try simp, by rw [HF.out.2.1]; try simp, by rw [HF.out.1]; exact HF.out.2.2.2⟩
          case measure => simp only [intOf]; omega
        · have hgt2 : ¬ (cc : Int) + 1 > m := hgt
          have hbv : bks S.wait xo m k = false := by rw [hbk]; simp; omega
          rw [hbv] at hs1 hs2l
          simp at hs1 hs2l hcn
          have HS := hid (And.intro hs1 (And.intro hs2l hcn))
          clear hs1 hs2l hcn hbk hbv
          obtain ⟨av, cv, hva⟩ := ownsRow_slice htw.2.1
          obtain ⟨na, hna⟩ : ∃ na, na = LA.length := ⟨_, rfl⟩
          rw [← hna] at hva
          subst hva
          have hnal : na ≤ 1024 := by omega
          have b3 := (Below.refl wr.heap.size wr).alloc (Nat.le_refl _) (.cells #[.int .i64 xo, .int .i64 xa, .int .i64 xv] 46)
          have hx3 := Box.new wr #[.int .i64 xo, .int .i64 xa, .int .i64 xv] 46
          have ho3 := ownsRow_below' htw.2.1 b3
          rw [← hna] at ho3
          have h2s : w.heap.size ≤ wr.heap.size := htw.1.size
          have HG := hid (And.intro htw (And.intro ho3 (And.intro hna (And.intro hx3 b3))))
          clear htw ho3 hna hx3 b3
          go_wp2_with (at_builtin; refine wpList_append_own_at _ rfl _ _ 37 rfl w.heap.size 46 i0 (.agg #[.int .i64 0, .int .i64 0, .int .i64 0]) 3 24 Try.underlying37 hi0 hz0 hz1 hz2 rfl (by decide) _ na _ rfl HG.out.2.1 ⟨wr.heap.size, 0, none⟩ 1 1 [.int .i64 xo, .int .i64 xa, .int .i64 xv] rfl rfl (World.news_of_block HG.out.2.2.2.1) ?c2 ?c3 ?c4 ?c5 ?_)
          case c2 => exact ⟨rfl, rfl, rfl⟩
          case c3 => unfold maxLen; omega
          case c4 => omega
          try (case c5 => first | exact h2s | omega)
          intro v' w5 hown5 hgrow _ hat
          obtain ⟨av', cv', rfl⟩ := ownsRow_slice hown5
          have htw5 := HG.out.1.more HG.out.2.2.2.2 ⟨xv, xo, xa⟩ hgrow (by rw [← HG.out.2.2.1]; exact hown5) _ (by omega) hat
          have HF := hid htw5
          clear htw5 hown5 hgrow hat HG x0 x1 x2 c1x
          go_wp2_with fail
          go_roundw
          case rel => exact ⟨k + 1, by omega, by simp, by rw [HS.out.2.2]; try simp, by rw [HS.out.2.1]; try simp, by rw [HS.out.1]; exact HF.out⟩
          case measure => simp only [intOf]; omega
      · have hbv : bks S.wait o m k = false := by rw [hbk]; simp [ho]
        rw [hbv] at hs1 hs2l
        rw [if_neg ho] at hcn
        simp at hs1 hs2l hcn
        have HS := hid (And.intro hs1 (And.intro hs2l hcn))
        clear hs1 hs2l hcn hbk hbv
        obtain ⟨av, cv, hva⟩ := ownsRow_slice htw.2.1
        obtain ⟨na, hna⟩ : ∃ na, na = LA.length := ⟨_, rfl⟩
        rw [← hna] at hva
        subst hva
        have hnal : na ≤ 1024 := by omega
        have b3 := (Below.refl wr.heap.size wr).alloc (Nat.le_refl _) (.cells #[.int .i64 xo, .int .i64 xa, .int .i64 xv] 46)
        have hx3 := Box.new wr #[.int .i64 xo, .int .i64 xa, .int .i64 xv] 46
        have ho3 := ownsRow_below' htw.2.1 b3
        rw [← hna] at ho3
        have h2s : w.heap.size ≤ wr.heap.size := htw.1.size
        have HG := hid (And.intro htw (And.intro ho3 (And.intro hna (And.intro hx3 b3))))
        clear htw ho3 hna hx3 b3
        go_wp2_with (at_builtin; refine wpList_append_own_at _ rfl _ _ 37 rfl w.heap.size 46 i0 (.agg #[.int .i64 0, .int .i64 0, .int .i64 0]) 3 24 Try.underlying37 hi0 hz0 hz1 hz2 rfl (by decide) _ na _ rfl HG.out.2.1 ⟨wr.heap.size, 0, none⟩ 1 1 [.int .i64 xo, .int .i64 xa, .int .i64 xv] rfl rfl (World.news_of_block HG.out.2.2.2.1) ?c2 ?c3 ?c4 ?c5 ?_)
        case c2 => exact ⟨rfl, rfl, rfl⟩
        case c3 => unfold maxLen; omega
        case c4 => omega
        try (case c5 => first | exact h2s | omega)
        intro v' w5 hown5 hgrow _ hat
        obtain ⟨av', cv', rfl⟩ := ownsRow_slice hown5
        have htw5 := HG.out.1.more HG.out.2.2.2.2 ⟨xv, xo, xa⟩ hgrow (by rw [← HG.out.2.2.1]; exact hown5) _ (by omega) hat
        have HF := hid htw5
        clear htw5 hown5 hgrow hat HG x0 x1 x2 c1x
        go_wp2_with fail
        go_roundw
        case rel => exact ⟨k + 1, by omega, by simp, by rw [HS.out.2.2]; try simp, by rw [HS.out.2.1]; try simp, by rw [HS.out.1]; exact HF.out⟩
        case measure => simp only [intOf]; omega
    · have hki : ¬ (k : Int) < (nw : Int) := by omega
      obtain rfl : k = nw := by omega
      rw [HN.out.1, List.take_length] at htw
      obtain ⟨av, cv, hva⟩ := ownsRow_slice htw.2.1
      subst hva
      have f1x : wr.frozen? ⟨r, 0, none⟩ = false := by
        have := HR.out.1.below htw.1
        exact this.box.frozen 0
      have hto := HR.out.1.setW htw.1 htw.2.1 HR.out.2 (by have := (sel_sub (fun j => !bks S.wait o m j) S.wait).length_le; have := HR.out.1.rm; omega)
      obtain ⟨z, hz⟩ : ∃ z, z = (sel (bks S.wait o m) (S.wait.take k)).length := ⟨_, rfl⟩
      have hz2' : z = (sel (bks S.wait o m) S.wait).length := by rw [hz, HN.out.1, List.take_length]
      rw [← hz]
      have HF := hid (And.intro hto hz2')
      clear htw hrel hto c1 hrl hz hz2'
      go_wp2_with fail
      go_ret
      exact ⟨by rw [← HF.out.2]; rfl, HF.out.1⟩
end Go.Proofs.Ytlbnilendcelkaa
