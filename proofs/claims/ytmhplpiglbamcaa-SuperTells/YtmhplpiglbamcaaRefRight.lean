/-
  The document's own Right.
-/
import Derived.Test.YtmhplpiglbamcaaPutInode
import Derived.Deep.QuietTactic
import Derived.BigQuiet
namespace Go.Proofs.Ytmhplpiglbamcaa
open Go.RowKit

theorem badE_iff (a s c d : Int) (hd : 0 ≤ d) : badE ⟨a, s, c⟩ d = true ↔ (c < 1 ∨ 512 < c ∨ a < 0 ∨ 512 < a ∨ s < 1 ∨ 512 < s ∨ 512 < a + c ∨ 512 < s + c ∨ a < d) := by
  simp [badE, wi]
  omega

theorem right_false {es : List Ext} {k : Nat} {e : Ext} (hk : k < es.length) (he : e = es[k]) (hb : badE e (endOf (es.take k)) = true) (hall : rightFrom 0 (es.take k) = true) : rightFrom 0 es = false := by
  have h1 : rightFrom 0 (es.take (k + 1)) = false := by
    rw [List.take_succ_eq_append_getElem hk, rightFrom_append _ _ _ hall, ← he]
    unfold endOf at hb
    rw [hb]; rfl
  have := rightFrom_head 0 (es.take (k + 1)) (es.drop (k + 1)) h1
  rwa [List.take_append_drop] at this
theorem right_on {es : List Ext} {k : Nat} {e : Ext} (hk : k < es.length) (he : e = es[k]) (hb : badE e (endOf (es.take k)) = false) (hall : rightFrom 0 (es.take k) = true) : rightFrom 0 (es.take (k + 1)) = true := by
  rw [List.take_succ_eq_append_getElem hk, rightFrom_append _ _ _ hall, ← he]
  unfold endOf at hb
  rw [hb]; rfl

set_option maxRecDepth 100000 in
set_option maxHeartbeats 2000000 in
theorem refRight_in (b o cap n : Nat) (es : List Ext) (w : World) (hl : es.length = n) (hn : n ≤ 9223372036854775807) (hw : ∀ e ∈ es, wfE e) (hb : b < w.heap.size)
    (hc : ∀ j (h : j < es.length), w.cell? ⟨b, o + j * 3, none⟩ = some (.int .i64 es[j].a) ∧ w.cell? ⟨b, o + j * 3 + 1, none⟩ = some (.int .i64 es[j].s) ∧ w.cell? ⟨b, o + j * 3 + 2, none⟩ = some (.int .i64 es[j].c)) :
    Calls Try.prog 25 #[.slice (some ⟨b, o, none⟩) n cap] w fun e w' => e = .returned (.bool (rightFrom 0 es)) ∧ Below w.heap.size w w' := by
  have Hl : Hid _ := hl
  have Hc : Hid _ := hc
  have Hw : Hid _ := hw
  clear hl hc hw
  go_enter Try.func25, Try.ntmps25
  go_wp2_with fail
  go_loopw [3] (fun i wr => ∃ k : Nat, k ≤ n ∧ i = .int .i64 k ∧ Hid (rightFrom 0 (es.take k) = true) ∧ Below w.heap.size w wr) (fun i _ => n - (intOf i).toNat)
  case atStart => exact ⟨0, Nat.zero_le _, rfl, by show _ = _; simp [rightFrom], Below.refl _ _⟩
  case round =>
    obtain ⟨k, hk, rfl, hall, hbel⟩ := hrel
    by_cases hlt : k < n
    · have hlt' : Hid (k < es.length) := by show _ < _; rw [Hl.out]; exact hlt
      obtain ⟨e, hcc⟩ : ∃ e, e = es[k]'hlt'.out := ⟨_, rfl⟩
      obtain ⟨h0, h1, h2⟩ := Hc.out k hlt'.out
      rw [← hcc] at h0 h1 h2
      have hwe := Hw.out e (by rw [hcc]; exact List.getElem_mem _)
      replace h0 := (hbel.cell (p := ⟨b, _, none⟩) hb).trans h0
      replace h1 := (hbel.cell (p := ⟨b, _, none⟩) hb).trans h1
      replace h2 := (hbel.cell (p := ⟨b, _, none⟩) hb).trans h2
      have Hcc : Hid _ := hcc
      clear hcc
      obtain ⟨ea, eb, ec⟩ := e
      obtain ⟨D, hD⟩ : ∃ D, D = endOf (es.take k) := ⟨_, rfl⟩
      have hD0 : 0 ≤ D := by rw [hD]; exact endOf_nonneg _ 0 (by omega) hall.out
      have HD : Hid _ := hD
      have bad := badE_iff ea eb ec D hD0
      have no : Hid (badE ⟨ea, eb, ec⟩ D = true → rightFrom 0 es = false) := fun h => right_false hlt'.out Hcc.out (by rw [← HD.out]; exact h) hall.out
      have yes : Hid (badE ⟨ea, eb, ec⟩ D = false → rightFrom 0 (es.take (k + 1)) = true) := fun h => right_on hlt'.out Hcc.out (by rw [← HD.out]; exact h) hall.out
      have Bad : Hid _ := bad
      have B1 := hbel.alloc hbel.size (.cells #[.int .i64 ea, .int .i64 eb, .int .i64 ec] 46)
      clear hD bad
      obtain ⟨⟨ha1, ha2⟩, ⟨hs1, hs2⟩, ⟨hc1, hc2⟩⟩ := hwe
      dsimp only at ha1 ha2 hs1 hs2 hc1 hc2
      by_cases h6 : 1 ≤ ec ∧ ec ≤ 512 ∧ 0 ≤ ea ∧ ea ≤ 512 ∧ 1 ≤ eb ∧ eb ≤ 512
      · obtain ⟨q1, q2, q3, q4, q5, q6⟩ := h6
        obtain ⟨U, hU⟩ : ∃ U, U = wr.alloc (.cells #[.int .i64 ea, .int .i64 eb, .int .i64 ec] 46) := ⟨_, rfl⟩
        have x0 := Box.new wr #[.int .i64 ea, .int .i64 eb, .int .i64 ec] 46
        have g0 := x0.cell 0
        have g1 := x0.cell 1
        have g2 := x0.cell 2
        simp only [List.getElem?_toArray, List.getElem?_cons_zero, List.getElem?_cons_succ] at g0 g1 g2
        rw [← hU] at B1 g0 g1 g2
        by_cases h7 : 512 < ea + ec
        · have no' : Hid (rightFrom 0 es = false) := no.out (Bad.out.2 (by omega))
          go_wp2_with fail
          rw [← hU]; clear hU
          go_quiet (fail)
          generalize hV : U.drewN nq = V
          have BV : Below w.heap.size w V := by rw [← hV]; exact ⟨B1.os, B1.tape, B1.output, B1.size, B1.block⟩
          go_wp2
          go_ret
          rw [no'.out]
          exact ⟨rfl, BV⟩
        · by_cases h8 : 512 < eb + ec
          · have no' : Hid (rightFrom 0 es = false) := no.out (Bad.out.2 (by omega))
            have d7 : decide (512 < ea + ec) = false := by simpa using h7
            go_wp2_with fail
            rw [← hU]; clear hU
            go_quiet (fail)
            generalize hV : U.drewN nq = V
            have BV : Below w.heap.size w V := by rw [← hV]; exact ⟨B1.os, B1.tape, B1.output, B1.size, B1.block⟩
            go_wp2
            go_ret
            rw [no'.out]
            exact ⟨rfl, BV⟩
          · have d7 : decide (512 < ea + ec) = false := by simpa using h7
            have d8 : decide (512 < eb + ec) = false := by simpa using h8
            by_cases hk0 : k = 0
            · subst hk0
              simp only [Nat.zero_mul, Nat.add_zero] at h0 h1 h2
              have e0 : D = 0 := by rw [HD.out]; simp [endOf]
              have nb : badE ⟨ea, eb, ec⟩ D = false := by
                cases hq : badE ⟨ea, eb, ec⟩ D with
                | false => rfl
                | true => have := Bad.out.1 hq; omega
              have yes' : Hid _ := yes.out nb
              clear nb
              go_wp2_with fail
              rw [← hU]; clear hU
              go_quiet (fail)
              generalize hV : U.drewN nq = V
              have BV : Below w.heap.size w V := by rw [← hV]; exact ⟨B1.os, B1.tape, B1.output, B1.size, B1.block⟩
              go_wp2
              go_roundw
              case rel => exact ⟨0 + 1, by omega, by go_num, yes'.out, BV⟩
              case measure => simp [intOf]; omega
            · obtain ⟨j, rfl⟩ : ∃ j, k = j + 1 := ⟨k - 1, by omega⟩
              have hj : j < es.length := by have := hlt'.out; omega
              obtain ⟨e', hee⟩ : ∃ e, e = es[j]'hj := ⟨_, rfl⟩
              obtain ⟨p0, _, p2⟩ := Hc.out j hj
              have hwe := Hw.out e' (by rw [hee]; exact List.getElem_mem _)
              rw [← hee] at p0 p2
              have hDe : D = e'.a + e'.c := by rw [HD.out, List.take_succ_eq_append_getElem hj, endOf_snoc, hee]
              have nbj : badE e' (endOf (es.take j)) = false := by
                have h9 := hall.out
                have hj9 : rightFrom 0 (es.take j) = true := by
                  cases hq : rightFrom 0 (es.take j) with
                  | true => rfl
                  | false =>
                    have := rightFrom_head 0 (es.take j) [es[j]] hq
                    rw [← List.take_succ_eq_append_getElem hj, h9] at this
                    cases this
                rw [List.take_succ_eq_append_getElem hj, rightFrom_append _ _ _ hj9, ← hee] at h9
                simpa [endOf] using h9
              obtain ⟨fa, fb, fc⟩ := e'
              have hbd := badE_false nbj
              have hen := endOf_nonneg (es.take j) 0 (by omega) (by
                cases hq : rightFrom 0 (es.take j) with
                  | true => rfl
                  | false =>
                    have := rightFrom_head 0 (es.take j) [es[j]] hq
                    rw [← List.take_succ_eq_append_getElem hj, hall.out] at this
                    cases this)
              change 0 ≤ endOf (es.take j) at hen
              dsimp only at hbd hDe p0 p2
              clear hee nbj hwe
              replace p0 : U.cell? ⟨b, o + j * 3, none⟩ = some (.int .i64 fa) := (B1.cell (p := ⟨b, _, none⟩) hb).trans p0
              replace p2 : U.cell? ⟨b, o + j * 3 + 2, none⟩ = some (.int .i64 fc) := (B1.cell (p := ⟨b, _, none⟩) hb).trans p2
              generalize endOf (es.take j) = E at hbd hen
              have wa : IntKind.i64.wrap (ea + ec) = ea + ec := by rw [IntKind.wrap_i64]; clear hbd; omega
              have wb : IntKind.i64.wrap (eb + ec) = eb + ec := by rw [IntKind.wrap_i64]; clear hbd; omega
              have wc : IntKind.i64.wrap (fa + fc) = fa + fc := by rw [IntKind.wrap_i64]; omega
              have wj : IntKind.i64.wrap (j : Int) = j := by rw [IntKind.wrap_i64]; clear hbd; omega
              have hj1 : (j : Int) + 1 - 1 = j := by omega
              have hj2 : (j : Int) < n := by omega
              have hj3 : (0 : Int) < (j : Int) + 1 := by omega
              by_cases h9 : ea < fa + fc
              · have no' : Hid (rightFrom 0 es = false) := no.out (Bad.out.2 (by omega))
                clear hDe
                go_wp2_with fail
                rw [← hU]; clear hU
                go_quiet (fail)
                generalize hV : U.drewN nq = V
                have BV : Below w.heap.size w V := by rw [← hV]; exact ⟨B1.os, B1.tape, B1.output, B1.size, B1.block⟩
                go_wp2
                go_ret
                rw [no'.out]
                exact ⟨rfl, BV⟩
              · have nb : badE ⟨ea, eb, ec⟩ D = false := by
                  cases hq : badE ⟨ea, eb, ec⟩ D with
                  | false => rfl
                  | true => have := Bad.out.1 hq; omega
                have yes' : Hid _ := yes.out nb
                have d9 : decide (ea < fa + fc) = false := by simpa using h9
                clear hDe nb
                go_wp2_with fail
                rw [← hU]; clear hU
                go_quiet (fail)
                generalize hV : U.drewN nq = V
                have BV : Below w.heap.size w V := by rw [← hV]; exact ⟨B1.os, B1.tape, B1.output, B1.size, B1.block⟩
                go_wp2
                go_roundw
                case rel => exact ⟨j + 1 + 1, by omega, by go_num, yes'.out, BV⟩
                case measure => simp [intOf]; omega
      · have no' : Hid (rightFrom 0 es = false) := no.out (Bad.out.2 (by omega))
        go_wp2_with fail
        all_goals first
          | (exfalso; omega)
          | (go_ret; rw [no'.out]; exact ⟨rfl, B1⟩)
    · obtain rfl : k = n := by omega
      go_wp2
      go_ret
      have h1 := hall.out
      rw [List.take_of_length_le (by rw [Hl.out]; exact Nat.le_refl _)] at h1
      rw [h1]
      exact ⟨rfl, hbel⟩
theorem refRight_none (a : Option Addr) (cap : Nat) (w : World) :
    Calls Try.prog 25 #[.slice a 0 cap] w fun e w' => e = .returned (.bool (rightFrom 0 [])) ∧ Below w.heap.size w w' := by
  go_enter Try.func25, Try.ntmps25
  go_wp2_with fail
  refine wp_loop_rounds 1 ?_
  rw [rounds_succ]
  go_wp2
  go_ret
  exact ⟨rfl, Below.refl _ _⟩

/-- the document's Right is super's -/
theorem refRight_at (cap n : Nat) (a : Option Addr) (es : List Ext) (w : World) (hl : es.length = n) (hn : n ≤ 9223372036854775807) (hw : ∀ e ∈ es, wfE e) (hr : RdE w a es) :
    Calls Try.prog 25 #[.slice a n cap] w fun e w' => e = .returned (.bool (rightFrom 0 es)) ∧ Below w.heap.size w w' := by
  by_cases h0 : 0 < n
  · obtain ⟨b, o, rfl, hc⟩ := hr (by omega)
    exact refRight_in b o cap n es w hl hn hw (block_lt_of_cell (hc 0 (by omega)).1) hc
  · obtain rfl : n = 0 := by omega
    obtain rfl : es = [] := List.eq_nil_of_length_eq_zero hl
    exact refRight_none a cap w
end Go.Proofs.Ytmhplpiglbamcaa
