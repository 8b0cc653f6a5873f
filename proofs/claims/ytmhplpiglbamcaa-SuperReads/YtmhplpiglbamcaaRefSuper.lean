/-
  The document's own PutSuper, whatever the super.
-/
import Derived.Test.YtmhplpiglbamcaaRefPut
namespace Go.Proofs.Ytmhplpiglbamcaa
open Go.RowKit

theorem refPutSuper_none (b e q t : Int) (w : World) (h : rightS b e q t = false) :
    Calls Try.prog 22 #[.agg #[.int .i64 b, .int .i64 e, .int .i64 q, .int .i64 t]] w fun r w' => Puts w w' none r := by
  have B0 := (Below.refl w.heap.size w).alloc (Nat.le_refl _) (.cells #[.int .i64 b, .int .i64 e, .int .i64 q, .int .i64 t] 27)
  by_cases h0 : b < 64
  · clear h
    go_enter Try.func22, Try.ntmps22
    go_wp2
    go_ret2
    exact ⟨_, rfl, World.ownsRow_nil _ _ _ _, B0⟩
  · by_cases h1 : 512 < b
    · clear h
      go_enter Try.func22, Try.ntmps22
      go_wp2
      go_ret2
      exact ⟨_, rfl, World.ownsRow_nil _ _ _ _, B0⟩
    · by_cases h2 : e < 1
      · clear h
        go_enter Try.func22, Try.ntmps22
        go_wp2
        go_ret2
        exact ⟨_, rfl, World.ownsRow_nil _ _ _ _, B0⟩
      · by_cases h3 : 8388608 < e
        · clear h
          go_enter Try.func22, Try.ntmps22
          go_wp2
          go_ret2
          exact ⟨_, rfl, World.ownsRow_nil _ _ _ _, B0⟩
        · by_cases h4 : q < 1
          · clear h
            go_enter Try.func22, Try.ntmps22
            go_wp2
            go_ret2
            exact ⟨_, rfl, World.ownsRow_nil _ _ _ _, B0⟩
          · by_cases h5 : 549755813888 < q
            · clear h
              go_enter Try.func22, Try.ntmps22
              go_wp2
              go_ret2
              exact ⟨_, rfl, World.ownsRow_nil _ _ _ _, B0⟩
            · by_cases h6 : t < 0
              · clear h
                go_enter Try.func22, Try.ntmps22
                go_wp2
                go_ret2
                exact ⟨_, rfl, World.ownsRow_nil _ _ _ _, B0⟩
              · by_cases h7 : 511 < t
                · clear h
                  go_enter Try.func22, Try.ntmps22
                  go_wp2
                  go_ret2
                  exact ⟨_, rfl, World.ownsRow_nil _ _ _ _, B0⟩
                · exfalso
                  have hh : rightS b e q t = true := by
                    simp only [rightS, wi, Bool.and_eq_true, decide_eq_true_eq]
                    omega
                  rw [hh] at h
                  cases h

/-- the document's PutSuper is super's -/
theorem refPutSuper_at (b e q t : Int) (w : World) : Calls Try.prog 22 #[.agg #[.int .i64 b, .int .i64 e, .int .i64 q, .int .i64 t]] w fun r w' => Puts w w' (putSuper b e q t) r := by
  cases h : rightS b e q t
  · have e0 : putSuper b e q t = none := by unfold putSuper; rw [h]; rfl
    rw [e0]
    exact refPutSuper_none b e q t w h
  · have e0 : putSuper b e q t = some (superB b.toNat e.toNat q.toNat t.toNat) := by unfold putSuper; rw [h]; rfl
    rw [e0]
    have hh := rightS_nat h
    obtain ⟨b, rfl⟩ := Int.eq_ofNat_of_zero_le (show 0 ≤ b by omega)
    obtain ⟨e, rfl⟩ := Int.eq_ofNat_of_zero_le (show 0 ≤ e by omega)
    obtain ⟨q, rfl⟩ := Int.eq_ofNat_of_zero_le (show 0 ≤ q by omega)
    obtain ⟨t, rfl⟩ := Int.eq_ofNat_of_zero_le (show 0 ≤ t by omega)
    exact refPutSuper_ok b e q t w (by omega) (by omega) (by omega) (by omega)
end Go.Proofs.Ytmhplpiglbamcaa
