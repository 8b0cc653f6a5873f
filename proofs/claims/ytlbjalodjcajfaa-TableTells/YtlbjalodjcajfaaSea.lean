/-
  sort.Search.
-/
import Derived.Test.YtlbjalodjcajfaaRgt
namespace Go.Proofs.Ytlbjalodjcajfaa
open Go.RowKit Go.Maps
set_option maxRecDepth 100000 in
set_option maxHeartbeats 4000000 in
theorem search_at {w : World} (n : Nat) (caps : Array Value) (pr : Nat → Bool) (hn : n ≤ 1024) (hin : ∀ args w, (callFunc 55 args).run Try.prog w = .ok (.enter 55 args) w)
    (hf : ∀ i, i < n → ∀ u, Below w.heap.size w u → Calls Try.prog 55 (#[.int .i64 (i : Int)] ++ caps) u fun r u' => r = .returned (.bool (pr i)) ∧ Below u.heap.size u u')
    (q : Nat) (hq : q ≤ n) (h0 : ∀ i, i < q → pr i = false) (h1 : ∀ i, q ≤ i → i < n → pr i = true) :
    Calls Try.prog 54 #[.int .i64 (n : Int), .func (.func 55) #[] caps] w fun r w' => r = .returned (.int .i64 (q : Int)) ∧ Below w.heap.size w w' := by
  have HF := hid hf
  have HP := hid (And.intro h0 h1)
  clear hf h0 h1
  go_enter Try.func54, Try.ntmps54
  go_wp2_with fail
  go_loopw [5, 6] (fun x y u => ∃ i j : Nat, i ≤ q ∧ q ≤ j ∧ j ≤ n ∧ x = .int .i64 (i : Int) ∧ y = .int .i64 (j : Int) ∧ Hid (Below w.heap.size w u)) (fun x y _ => (iof y - iof x).toNat)
  case atStart => exact ⟨0, n, by omega, hq, Nat.le_refl _, by simp, by simp, Below.refl _ _⟩
  case round =>
    obtain ⟨i, j, hi, hj, hjn, rfl, rfl, hrel⟩ := hrel
    by_cases hlt : i < j
    · have hki : (i : Int) < (j : Int) := by omega
      go_upto_region 4 with fail
      have hh : ((i : Int) + (j : Int)) / 2 = (((i + j) / 2 : Nat) : Int) := by omega
      rw [hh]
      obtain ⟨h, hh2⟩ : ∃ h, h = (i + j) / 2 := ⟨_, rfl⟩
      have hb1 : i ≤ h := by omega
      have hb2 : h < j := by omega
      rw [← hh2]
      have cf := HF.out h (by omega) wr hrel.out
      clear hh hh2
      go_wp2_with fail
      refine cf.mono ?_
      rintro e w1 ⟨rfl, hb⟩
      have HB : Hid (Below w.heap.size w w1) := hrel.out.trans (hb.mono hrel.out.size)
      clear cf hb hrel
      cases hp : pr h with
      | false =>
        have hq2 : h < q := by
          apply Classical.byContradiction
          intro hn'
          have := HP.out.2 h (by omega) (by omega)
          rw [hp] at this
          cases this
        clear hp
        go_wp2_with fail
        go_roundw
        case rel => exact ⟨h + 1, j, by omega, hj, hjn, by simp, by simp, HB.out⟩
        case measure => simp only [iof]; omega
      | true =>
        have hq2 : q ≤ h := by
          apply Classical.byContradiction
          intro hn'
          have := HP.out.1 h (by omega)
          rw [hp] at this
          cases this
        clear hp
        go_wp2_with fail
        go_roundw
        case rel => exact ⟨i, h, hi, hq2, by omega, by simp, by simp, HB.out⟩
        case measure => simp only [iof]; omega
    · have hki : ¬ (i : Int) < (j : Int) := by omega
      obtain rfl : i = q := by omega
      go_wp2_with fail
      go_ret
      exact ⟨rfl, hrel.out⟩
end Go.Proofs.Ytlbjalodjcajfaa
