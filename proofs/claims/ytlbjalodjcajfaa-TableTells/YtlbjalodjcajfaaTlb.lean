/-
  TableTells: a table that may not be.
-/
import Derived.Test.YtlbjalodjcajfaaTlt
import Derived.Deep.RegionHeld3
import Derived.Deep.CutRange
import Derived.Deep.CutBlock
import Derived.BigQuiet
namespace Go.Proofs.Ytlbjalodjcajfaa
open Go.RowKit Go.Maps
set_option maxRecDepth 100000 in
set_option maxHeartbeats 4000000 in
theorem tells_bad (w : World) (b m : Int) (a0 : Option Addr) (n0 c0 : Nat) (hb : m < 1 ∨ 200 < m ∨ b < 0 ∨ (250 : Int) - m < b) :
    Calls Try.prog 4 #[.int .i64 b, .int .i64 m, .slice a0 n0 c0] w fun e w' => e = .returned (.bool true) ∧ Below w.heap.size w w' := by
  have cb := begun_bad w 250 (by decide) (by decide) b m (by omega)
  rw [show ((250 : Nat) : Int) = 250 from rfl] at cb
  have HA := hid awake_at
  have HH := hid hb
  unfold ptr at *
  clear hb
  go_enter Try.func4, Try.ntmps4
  go_wp2_with fail
  refine cb.mono ?_
  rintro e w1 ⟨x, rfl, hb1⟩
  have C7 := HA.out w1
  have HB := hid hb1
  clear cb hb1 HA
  by_cases h1 : m < 1
  · as_aux_lemma =>
    have h1' : ¬ (1 ≤ m) := by omega
    go_wp2_with fail
    refine Calls.mono C7 ?_
    rintro e v7 ⟨rfl, b7⟩
    have B7 : Hid (Below w.heap.size w v7) := HB.out.trans (b7.mono HB.out.size)
    clear C7 b7
    go_wp2_with fail
    go_ret
    exact ⟨rfl, B7.out⟩
  by_cases h2 : 200 < m
  · as_aux_lemma =>
    have h1' : (1 ≤ m) := by omega
    have h2' : ¬ (m ≤ 200) := by omega
    go_wp2_with fail
    refine Calls.mono C7 ?_
    rintro e v7 ⟨rfl, b7⟩
    have B7 : Hid (Below w.heap.size w v7) := HB.out.trans (b7.mono HB.out.size)
    clear C7 b7
    go_wp2_with fail
    go_ret
    exact ⟨rfl, B7.out⟩
  by_cases h3 : b < 0
  · as_aux_lemma =>
    have h1' : (1 ≤ m) := by omega
    have h2' : (m ≤ 200) := by omega
    have h3' : ¬ (0 ≤ b) := by omega
    go_wp2_with fail
    refine Calls.mono C7 ?_
    rintro e v7 ⟨rfl, b7⟩
    have B7 : Hid (Below w.heap.size w v7) := HB.out.trans (b7.mono HB.out.size)
    clear C7 b7
    go_wp2_with fail
    go_ret
    exact ⟨rfl, B7.out⟩
  · have h1' : (1 ≤ m) := by omega
    have h2' : (m ≤ 200) := by omega
    have h3' : (0 ≤ b) := by omega
    have h5' : IntKind.i64.wrap (250 - m) = 250 - m := by rw [IntKind.wrap_i64]; omega
    have h4' : ¬ (b ≤ 250 - m) := by have := HH.out; omega
    have h6 : decide (b ≤ 250 - m) = false := decide_eq_false h4'
    clear h4' HH
    go_wp2_with fail
    refine Calls.mono C7 ?_
    rintro e v7 ⟨rfl, b7⟩
    have B7 : Hid (Below w.heap.size w v7) := HB.out.trans (b7.mono HB.out.size)
    clear C7 b7
    go_wp2_with fail
    go_ret
    exact ⟨rfl, B7.out⟩
end Go.Proofs.Ytlbjalodjcajfaa
