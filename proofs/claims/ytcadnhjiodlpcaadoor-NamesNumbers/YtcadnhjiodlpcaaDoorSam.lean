/-
  Whether two lists of texts are the same.
-/
import Derived.Test.YtcadnhjiodlpcaaDoorAwk
namespace Go.Proofs.YtcadnhjiodlpcaaDoor
open Go.RowKit
set_option maxRecDepth 100000 in
theorem same_at {w : World} {a b : Option Addr} {xs ys : List Tx} {c d : Nat} (hx : xs.length ≤ 9223372036854775807) (h : Ts w a xs) (k : Ts w b ys) :
    Calls Tryd.prog 17 #[.slice a xs.length c, .slice b ys.length d] w fun e w' => e = .returned (.bool (decide (xs = ys))) ∧ Below w.heap.size w w' := by
  by_cases hl : xs.length = ys.length
  · have HE := hid hl
    obtain ⟨n, hn⟩ : ∃ n, n = xs.length := ⟨_, rfl⟩
    rw [← hn] at hl
    rw [← hl, ← hn]
    have hn1 : n ≤ 9223372036854775807 := by omega
    have HN := hid (And.intro hn hl)
    have HT := hid (And.intro h k)
    clear h k hx hn hl
    go_enter Tryd.func17, Tryd.ntmps17
    go_wp2_with fail
    go_loopw [5] (fun v u => ∃ i : Nat, i ≤ n ∧ v = .int .i64 (i : Int) ∧ Hid (xs.take i = ys.take i ∧ Below w.heap.size w u)) (fun v _ => n - (iof v).toNat)
    case atStart => exact ⟨0, by omega, by simp, by simp, Below.refl _ _⟩
    case round =>
      obtain ⟨i, hi, rfl, hrel⟩ := hrel
      by_cases hlt : i < n
      · have hxi : i < xs.length := by have := HN.out.1; omega
        have hyi : i < ys.length := by have := HN.out.2; omega
        obtain ⟨p, o, rfl, hp, hc⟩ := HT.out.1 (by omega)
        obtain ⟨p', o', rfl, hp', hc'⟩ := HT.out.2 (by omega)
        have cc := (hrel.out.2.cell (p := ⟨p, o + i, none⟩) hp).trans (hc i hxi)
        have cc' := (hrel.out.2.cell (p := ⟨p', o' + i, none⟩) hp').trans (hc' i hyi)
        clear hc hc' hp hp'
        have hlt' : (i : Int) < (n : Int) := by omega
        have wr1 : IntKind.i64.wrap ((i : Int) + 1) = ((i + 1 : Nat) : Int) := by rw [IntKind.wrap_i64]; omega
        have HX : Hid (xs[i]'hxi = ys[i]'hyi → xs.take (i + 1) = ys.take (i + 1)) := by
          refine hid (fun e => ?_)
          rw [List.take_succ_eq_append_getElem hxi, List.take_succ_eq_append_getElem hyi, hrel.out.1, e]
        have HY : Hid (xs[i]'hxi ≠ ys[i]'hyi → xs ≠ ys) := by
          refine hid (fun e h => e ?_)
          subst h
          rfl
        generalize xs[i]'hxi = x at *
        generalize ys[i]'hyi = y at *
        have lx := bs_toList x
        have ly := bs_toList y
        have HD : Hid (∀ m, Below w.heap.size w (World.drewN _ m)) := fun m => below_drewN hrel.out.2 m
        by_cases hq : x = y
        · have hq' : (x == y) = true := by simpa using hq
          have HX2 := hid (HX.out hq)
          clear HX HY hrel hxi hyi
          subst hq
          go_wp2_with fail
          go_quiet (fail)
          go_wp2_with fail
          go_roundw
          case rel => exact ⟨i + 1, by omega, by simp, HX2.out, HD.out _⟩
          case measure => simp only [iof]; omega
        · have hq' : (x == y) = false := by simpa using hq
          have HY2 := hid (HY.out hq)
          clear HX HY hrel hxi hyi
          go_wp2_with fail
          go_quiet (fail)
          go_wp2_with fail
          go_ret
          exact ⟨by rw [decide_eq_false HY2.out]; rfl, HD.out _⟩
      · have hlt' : ¬ (i : Int) < (n : Int) := by omega
        have HF := hid hrel.out.2
        have HQ : Hid (xs = ys) := by
          have := hrel.out.1
          rw [List.take_of_length_le (by have := HN.out.1; omega), List.take_of_length_le (by have := HN.out.2; omega)] at this
          exact hid this
        clear hrel
        go_wp2_with fail
        go_ret
        exact ⟨by rw [decide_eq_true HQ.out]; rfl, HF.out⟩
  · have hne : xs ≠ ys := fun e => hl (by rw [e])
    rw [decide_eq_false hne]
    have hl' : ¬ (xs.length : Int) = (ys.length : Int) := by omega
    clear h k
    go_enter Tryd.func17, Tryd.ntmps17
    go_wp2_with fail
    go_ret
    exact ⟨rfl, Below.refl _ _⟩
end Go.Proofs.YtcadnhjiodlpcaaDoor
