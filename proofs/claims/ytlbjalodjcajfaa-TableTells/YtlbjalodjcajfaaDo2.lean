/-
  The document's Next and Remove.
-/
import Derived.Test.YtlbjalodjcajfaaDoc
import Derived.Laws.AppendOwn
namespace Go.Proofs.Ytlbjalodjcajfaa
open Go.RowKit Go.Maps
def ag2 (p : Pr) : Value := .agg #[.string p.1, .string p.2]
section
variable {w : World} {v : Value} {P : List Pr} {key : ByteArray}
set_option maxRecDepth 100000 in
set_option maxHeartbeats 2000000 in
theorem rnext_at (h : DocV w v P) (hn : P.length ≤ 1024) (key : ByteArray) :
    Calls Try.prog 19 #[v, .string key] w fun r w' => r = .returned (.tuple #[ag2 ((nxtP P key).getD (⟨#[]⟩, ⟨#[]⟩)), .bool (nxtP P key).isSome]) ∧ Below w.heap.size w w' := by
  obtain ⟨a, c, rfl, hcl⟩ := h.open
  obtain ⟨w1, hw1⟩ : ∃ w1, w1 = w.alloc (.cells #[.string ⟨#[]⟩, .string ⟨#[]⟩] 58) := ⟨_, rfl⟩
  have hb1 : Below w.heap.size w w1 := by rw [hw1]; exact (Below.refl _ w).alloc (Nat.le_refl _) _
  have bx : Box w1 w.heap.size #[.string ⟨#[]⟩, .string ⟨#[]⟩] 58 := by rw [hw1]; exact Box.new w _ _
  have hcl := hcl w1 hb1
  obtain ⟨z, hz⟩ : ∃ z, z = nxtP P key := ⟨_, rfl⟩
  rw [← hz]
  have hz2 : z = P[(P.takeWhile (fun p => !blt key p.1)).length]? := by rw [hz]; exact find_tw _ _
  obtain ⟨i0, hi0⟩ : ∃ i0, i0 = (P.takeWhile (fun p => !blt key p.1)).length := ⟨_, rfl⟩
  rw [← hi0] at hz2
  have hlo : ∀ (j : Nat) (q : Pr), j < i0 → P[j]? = some q → blt key q.1 = false := fun j q hj hq => by
    have := tw_lt (f := fun p : Pr => !blt key p.1) (by rw [← hi0]; exact hj) hq
    simpa using this
  have hat : ∀ q : Pr, P[i0]? = some q → blt key q.1 = true := fun q hq => by
    have := tw_at (f := fun p : Pr => !blt key p.1) (by rw [← hi0]; exact hq)
    simpa using this
  have HC := hid (And.intro hcl (And.intro hz2 (And.intro hlo hat)))
  obtain ⟨n, hnl⟩ : ∃ n, n = P.length := ⟨_, rfl⟩
  rw [← hnl] at hn ⊢
  have HN := hid hnl
  have c0 : w1.cell? ⟨w.heap.size, 0, none⟩ = some (.string ⟨#[]⟩) := bx.cell 0
  have c1 : w1.cell? ⟨w.heap.size, 1, none⟩ = some (.string ⟨#[]⟩) := bx.cell 1
  have f0 := bx.frozen 0
  have f1 := bx.frozen 1
  have HF : Hid (∀ a b, Below w.heap.size w ((w1.setCell ⟨w.heap.size, 0, none⟩ a).setCell ⟨w.heap.size, 1, none⟩ b) ∧ Box ((w1.setCell ⟨w.heap.size, 0, none⟩ a).setCell ⟨w.heap.size, 1, none⟩ b) w.heap.size #[a, b] 58) := fun a b => ⟨(hb1.setCell (p := ⟨w.heap.size, 0, none⟩) (Nat.le_refl _) _).setCell (p := ⟨w.heap.size, 1, none⟩) (Nat.le_refl _) _, (bx.store 0 a).store 1 b⟩
  clear hcl hz2 hlo hat hnl hz hi0 h bx hb1
  unfold ag2
  go_enter Try.func19, Try.ntmps19
  go_upto_region 2 with fail
  rw [← hw1]
  clear hw1
  go_loopw [6] (fun x u => ∃ j : Nat, j ≤ n ∧ j ≤ i0 ∧ x = .int .i64 (j : Int) ∧ u = w1) (fun x _ => n - (iof x).toNat)
  case atStart => exact ⟨0, by omega, by omega, by simp, rfl⟩
  case round =>
    obtain ⟨j, hj, hj0, rfl, hw⟩ := hrel
    subst wr
    by_cases hlt : j < n
    · have hki : (j : Int) < (n : Int) := by omega
      have hjl : j < P.length := by rw [← HN.out]; omega
      have hx := List.getElem?_eq_getElem hjl
      obtain ⟨q, hq⟩ : ∃ q, q = P[j] := ⟨_, rfl⟩
      rw [← hq] at hx
      obtain ⟨b, rfl, d0, d1⟩ := HC.out.1 j q hx
      have hgt := gtr_blt q.1 key
      by_cases hji : j = i0
      · subst hji
        have hb := HC.out.2.2.2 q hx
        rw [hb] at hgt
        have hzz := HC.out.2.1
        rw [hx] at hzz
        subst hzz
        obtain ⟨qk, qv⟩ := q
        simp only at d0 d1 hgt
        clear HC hx hq hb hj0
        go_wp2_with fail
        have k := (HF.out (.string qk) (.string qv)).2
        have r0 := k.cell 0
        have r1 := k.cell 1
        simp at r0 r1
        exact bodyPost_ret (v := .tuple #[.agg #[.string qk, .string qv], .bool true]) (by simp [results, Try.results19, go_sem, r0, r1]) rfl ⟨rfl, (HF.out _ _).1⟩
      · have hb := HC.out.2.2.1 j q (by omega) hx
        rw [hb] at hgt
        clear hx hq hb
        go_wp2_with fail
        go_roundw
        case rel => exact ⟨j + 1, by omega, by omega, by simp, by simp⟩
        case measure => simp only [iof]; omega
    · have hki : ¬ (j : Int) < (n : Int) := by omega
      have hzz := HC.out.2.1
      rw [List.getElem?_eq_none (by rw [← HN.out]; omega)] at hzz
      subst hzz
      clear HC
      go_wp2_with fail
      have k := (HF.out (.string ⟨#[]⟩) (.string ⟨#[]⟩)).2
      have r0 := k.cell 0
      have r1 := k.cell 1
      simp at r0 r1
      exact bodyPost_ret (v := .tuple #[.agg #[.string ⟨#[]⟩, .string ⟨#[]⟩], .bool false]) (by simp [results, Try.results19, go_sem, r0, r1]) rfl ⟨rfl, (HF.out _ _).1⟩
end
end Go.Proofs.Ytlbjalodjcajfaa
