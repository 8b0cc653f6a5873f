/-
  AfterOrder, walked.
-/
import Derived.Test.YtlbnilendcelkaaOrA
import Derived.Deep.RegionHeld3
import Derived.Laws.AppendOwnNone
namespace Go.Proofs.Ytlbnilendcelkaa
open Go.RowKit Go.Maps
theorem OM.start {w u : World} {q : Nat} {F : Nat → Prop} (h : HasQ eI 49 33 u w.heap.size q ⟨[], []⟩ F) (hb : Below w.heap.size w u) : OM w (((u.alloc (.cells #[ptr q] 22)).alloc (.map #[] 0)).alloc (.cells #[.slice none 0 0] 52)) q u.heap.size (u.heap.size + 2) (u.heap.size + 1) 0 ⟨[], []⟩ (fun _ => .slice none 0 0) (fun _ => []) := by
  have b1 := (Below.refl u.heap.size u).alloc (Nat.le_refl _) (.cells #[ptr q] 22)
  have s1 : (u.alloc (.cells #[ptr q] 22)).heap.size = u.heap.size + 1 := by simp
  have s2 : ((u.alloc (.cells #[ptr q] 22)).alloc (.map #[] 0)).heap.size = u.heap.size + 2 := by simp
  have s3 : (((u.alloc (.cells #[ptr q] 22)).alloc (.map #[] 0)).alloc (.cells #[.slice none 0 0] 52)).heap.size = u.heap.size + 3 := by simp
  have b2 := b1.alloc (by omega) (.map #[] 0)
  have b3 := b2.alloc (by omega) (.cells #[.slice none 0 0] 52)
  have hF := fun k hk => HasQ.lt h k hk
  have x1 := (((Box.new u #[ptr q] 22).alloc (.map #[] 0)).alloc (.cells #[.slice none 0 0] 52))
  have m1 := MapJ.made (u.alloc (.cells #[ptr q] 22))
  have m2 := m1.below ((Below.refl _ _).alloc (Nat.le_refl _) (.cells #[.slice none 0 0] 52))
  have x2 := Box.new ((u.alloc (.cells #[ptr q] 22)).alloc (.map #[] 0)) #[.slice none 0 0] 52
  rw [s1] at m2
  rw [s2] at x2
  have hsz := hb.size
  refine ⟨⟨⟨F, h.below b3, fun e => by have := (hF _ e).2; omega, fun b e e' => by have := (hF _ e').2; omega, fun i b e => by cases e⟩, x1, fun i => World.ownsRow_nil _ _ _ _, fun i j b _ e => (by cases e), hb.trans (b3.mono hsz), fun b e => by omega⟩, x2, _, m2, fun o _ _ => rfl⟩
/-- what is true between the rounds -/
def St (w0 u : World) (q qb gb mb : Nat) (vt : Value) (ver : Int) (j : Nat) : Prop := ∃ n S V L W, n ≤ 2 * j ∧ OM w0 u q qb gb mb n S V L ∧ V 5 = vt ∧ (∀ o, 1 ≤ o → o ≤ 4 → L o = W o) ∧ Ord S W (L 5) (L 6) ver j
theorem up_W {L W : Int → List Int} (h : ∀ o, 1 ≤ o → o ≤ 4 → L o = W o) (i : Int) (l : List Int) : ∀ o, 1 ≤ o → o ≤ 4 → up L i l o = upW W i l o := fun o h1 h4 => by
  unfold up upW
  split
  · rfl
  · exact h o h1 h4
theorem Ord.up {S : QS Int} {W : Int → List Int} {T G : List Int} {ver : Int} {n : Nat} (h : Ord S W T G ver n) : Ord S W T G ver (n + 1) := ⟨h.mine, h.want, h.le, ⟨h.v0.1, by have := h.v0.2; omega⟩, by have := h.tot; omega, fun o => by have := h.ws o; omega⟩
set_option maxHeartbeats 4000000 in
set_option maxRecDepth 100000 in
theorem order_at {w : World} {a0 : Option Addr} {n0 c0 : Nat} {os : List Op4} (hl : os.length = n0) (hr : RdOps w a0 os) (hn : n0 ≤ 9223372036854775807) :
    Calls Try.prog 6 #[.slice a0 n0 c0] w fun r w' => r = .returned (.bool true) ∧ Below w.heap.size w w' := by
  have HRD := hid hr
  have HL := hid hl
  have cN := I.new_at w
  have hmm := @run_makeMap Try.prog
  clear hr hl
  unfold ptr at *
  go_enter Try.func6, Try.ntmps6
  go_wp2_with fail
  refine Calls.mono cN ?_
  rintro e u1 ⟨q, F, rfl, hq, hb⟩
  have HO := hid (OM.start hq hb)
  clear cN hq hb
  go_wp2_with fail
  go_loopw [5, 7, 9] (fun t v i x => ∃ (j : Nat) (ver : Int), j ≤ n0 ∧ j ≤ 300 ∧ i = .int .i64 (j : Int) ∧ v = .int .i64 ver ∧ Hid (St w x q u1.heap.size (u1.heap.size + 2) (u1.heap.size + 1) t ver j)) (fun _ _ i _ => n0 - (intOf i).toNat)
  case atStart => exact ⟨0, 0, Nat.zero_le _, Nat.zero_le _, by simp, by simp, 0, _, _, _, _, by omega, HO.out, rfl, fun _ _ _ => rfl, Ord.start⟩
  case round =>
    clear HO
    obtain ⟨j, ver, hjn, hj3, rfl, rfl, hrel⟩ := hrel
    by_cases hlt : j < n0
    · by_cases hl3 : j < 300
      · have hki : (j : Int) < (n0 : Int) := by omega
        have hk3 : (j : Int) < 300 := by omega
        obtain ⟨n, S, V, L, W, hn2, hom, rfl, hLW, hord⟩ := hrel.out
        obtain ⟨b, o, ⟨xk, xo, xa, xv⟩, rfl, hbl, c0', c1', c2', c3'⟩ := HRD.out.at wr hom.oc.bel j (by rw [HL.out]; exact hlt)
        simp only at c0' c1' c2' c3'
        have h4a : 0 ≤ xo % 4 := Int.emod_nonneg _ (by omega)
        have h4b : xo % 4 < 4 := Int.emod_lt_of_pos _ (by omega)
        have cP := fun u => kitPick_at xo 4 u (by omega) (by omega)
        obtain ⟨who, hwho⟩ : ∃ who, who = 1 + xo % 4 := ⟨_, rfl⟩
        generalize xo % 4 = y at *
        have r1 : IntKind.i64.wrap (1 + y) = who := by rw [IntKind.wrap_i64]; omega
        have w1 : 1 ≤ who := by omega
        have w4 : who ≤ 4 := by omega
        have bop := (Below.refl wr.heap.size wr).alloc (Nat.le_refl _) (.cells #[.int .i64 xk, .int .i64 xo, .int .i64 xa, .int .i64 xv] 41)
        have hom1 := hom.below bop
        obtain ⟨av, cv, hvt⟩ := ownsRow_slice (hom.oc.row 5)
        have hbq : (wr.alloc (.cells #[.int .i64 xk, .int .i64 xo, .int .i64 xa, .int .i64 xv] 41)).cell? ⟨u1.heap.size, 0, none⟩ = some (.pointer (some ⟨q, 0, none⟩)) := hom1.oc.bq.cell 0
        have HM := hid (And.intro hom1 (And.intro hLW (And.intro hord hn2)))
        have HV := hid hvt
        clear hom hom1 hord hLW hrel hwho bop hn2 hvt
        by_cases hk0 : xk = 0
        · subst hk0
          obtain ⟨q1, q2⟩ := HM.out.2.2.1.later (by omega) who w1 (j : Int)
          have cL := HM.out.1.later who (j : Int)
          rw [q1] at cL
          unfold ptr at cL
          rw [← HM.out.2.1 who w1 w4] at q2
          have HQ := hid q2
          clear q1 q2
          go_wp2_with (go_at_call 22; refine (cP _).mono ?_; rintro e w' ⟨rfl, rfl⟩)
          refine Calls.mono cL ?_
          rintro e u2 ⟨rfl, hom2⟩
          clear cL
          obtain ⟨ao, co, hvo⟩ := ownsRow_slice (hom2.oc.row who)
          obtain ⟨no, hno⟩ : ∃ no, no = (L who).length := ⟨_, rfl⟩
          rw [← hno] at hvo
          have hnol : no ≤ 1024 := by
            have := HM.out.2.2.1.ws who
            rw [← HM.out.2.1 who w1 w4, ← hno] at this
            omega
          have hlook := hom2.look who w1 w4
          rw [hvo] at hlook
          have b3 := (Below.refl u2.heap.size u2).alloc (Nat.le_refl _) (.cells #[.int .i64 (j : Int)] 3)
          have hom3 := hom2.below b3
          have ho3 := hom3.oc.row who
          rw [hvo, ← hno] at ho3
          have hx3 := Box.new u2 #[.int .i64 (j : Int)] 3
          have h2s : w.heap.size ≤ u2.heap.size := hom2.oc.bel.size
          obtain ⟨i0, hi0, hz0, hz1, hz2⟩ := info_parts info3'
          have HG := hid (And.intro hom3 (And.intro ho3 (And.intro hno hvo)))
          have HX := hid hx3
          clear hom2 hom3 ho3 hx3 b3 hno hvo c0' c1' c2' c3' hbq
          go_wp2_with (at_builtin; refine wpList_append_own_at _ rfl _ _ 52 rfl w.heap.size 3 i0 (.int .i64 0) 1 8 Try.underlying52 hi0 hz0 hz1 hz2 rfl (by decide) _ no _ rfl HG.out.2.1 ⟨u2.heap.size, 0, none⟩ 1 1 [.int .i64 (j : Int)] rfl rfl (World.news_of_block HX.out) ?c2 ?c3 ?c4 ?c5 ?_)
          case c2 => first | rfl | (intro u hu; simp at hu; subst hu; rfl)
          case c3 => unfold maxLen; omega
          case c4 => omega
          try (case c5 => first | exact h2s | (simp; omega))
          intro v' w5 hown5 hgrow _ hat
          obtain ⟨av', cv', rfl⟩ := ownsRow_slice hown5
          have hr5 : w5.ownsRow w.heap.size 3 1 (.slice av' (no + 1) cv') (L who ++ [(j : Int)]).length (ics (L who ++ [(j : Int)])) := by
            rw [List.length_append, ← HG.out.2.2.1, ics, List.map_append]
            exact hown5
          obtain ⟨u6, hrun, hom6⟩ := HG.out.1.wait (by have := HM.out.2.2.2; unfold maxLen; omega) who w1 w4 (by rw [HG.out.2.2.2]; exact hgrow) hr5 (by
            rw [HG.out.2.2.2]
            rcases hat with hat | hat
            · exact .inl hat
            · exact .inr (fun k hk => by rw [hat] at hk; injection hk with hk; simp; omega))
          have HF : Hid (St w u6 q u1.heap.size (u1.heap.size + 2) (u1.heap.size + 1) (V 5) ver (j + 1)) := ⟨_, _, _, _, _, by have := HM.out.2.2.2; omega, hom6, up_other _ _ _ _ (by omega), up_W HM.out.2.1 who _, (by rw [up_other _ _ _ _ (by omega), up_other _ _ _ _ (by omega)]; exact HQ.out)⟩
          clear hom6 hr5 hown5 hgrow hat HG HX HQ
          go_wp2_with fail
          go_roundw
          case rel => exact ⟨j + 1, ver, by omega, by omega, by simp, rfl, HF.out⟩
          case measure => simp only [intOf]; omega
        by_cases hk1 : xk = 1
        · subst hk1
          obtain ⟨q1, q2⟩ := HM.out.2.2.1.later (by omega) who w1 (j : Int)
          have cL := HM.out.1.later who (j : Int)
          rw [q1] at cL
          unfold ptr at cL
          rw [← HM.out.2.1 who w1 w4] at q2
          have HQ := hid q2
          clear q1 q2
          go_wp2_with (go_at_call 22; refine (cP _).mono ?_; rintro e w' ⟨rfl, rfl⟩)
          refine Calls.mono cL ?_
          rintro e u2 ⟨rfl, hom2⟩
          clear cL
          obtain ⟨ao, co, hvo⟩ := ownsRow_slice (hom2.oc.row who)
          obtain ⟨no, hno⟩ : ∃ no, no = (L who).length := ⟨_, rfl⟩
          rw [← hno] at hvo
          have hnol : no ≤ 1024 := by
            have := HM.out.2.2.1.ws who
            rw [← HM.out.2.1 who w1 w4, ← hno] at this
            omega
          have hlook := hom2.look who w1 w4
          rw [hvo] at hlook
          have b3 := (Below.refl u2.heap.size u2).alloc (Nat.le_refl _) (.cells #[.int .i64 (j : Int)] 3)
          have hom3 := hom2.below b3
          have ho3 := hom3.oc.row who
          rw [hvo, ← hno] at ho3
          have hx3 := Box.new u2 #[.int .i64 (j : Int)] 3
          have h2s : w.heap.size ≤ u2.heap.size := hom2.oc.bel.size
          obtain ⟨i0, hi0, hz0, hz1, hz2⟩ := info_parts info3'
          have HG := hid (And.intro hom3 (And.intro ho3 (And.intro hno hvo)))
          have HX := hid hx3
          clear hom2 hom3 ho3 hx3 b3 hno hvo c0' c1' c2' c3' hbq
          go_wp2_with (at_builtin; refine wpList_append_own_at _ rfl _ _ 52 rfl w.heap.size 3 i0 (.int .i64 0) 1 8 Try.underlying52 hi0 hz0 hz1 hz2 rfl (by decide) _ no _ rfl HG.out.2.1 ⟨u2.heap.size, 0, none⟩ 1 1 [.int .i64 (j : Int)] rfl rfl (World.news_of_block HX.out) ?c2 ?c3 ?c4 ?c5 ?_)
          case c2 => first | rfl | (intro u hu; simp at hu; subst hu; rfl)
          case c3 => unfold maxLen; omega
          case c4 => omega
          try (case c5 => first | exact h2s | (simp; omega))
          intro v' w5 hown5 hgrow _ hat
          obtain ⟨av', cv', rfl⟩ := ownsRow_slice hown5
          have hr5 : w5.ownsRow w.heap.size 3 1 (.slice av' (no + 1) cv') (L who ++ [(j : Int)]).length (ics (L who ++ [(j : Int)])) := by
            rw [List.length_append, ← HG.out.2.2.1, ics, List.map_append]
            exact hown5
          obtain ⟨u6, hrun, hom6⟩ := HG.out.1.wait (by have := HM.out.2.2.2; unfold maxLen; omega) who w1 w4 (by rw [HG.out.2.2.2]; exact hgrow) hr5 (by
            rw [HG.out.2.2.2]
            rcases hat with hat | hat
            · exact .inl hat
            · exact .inr (fun k hk => by rw [hat] at hk; injection hk with hk; simp; omega))
          have HF : Hid (St w u6 q u1.heap.size (u1.heap.size + 2) (u1.heap.size + 1) (V 5) ver (j + 1)) := ⟨_, _, _, _, _, by have := HM.out.2.2.2; omega, hom6, up_other _ _ _ _ (by omega), up_W HM.out.2.1 who _, (by rw [up_other _ _ _ _ (by omega), up_other _ _ _ _ (by omega)]; exact HQ.out)⟩
          clear hom6 hr5 hown5 hgrow hat HG HX HQ
          go_wp2_with fail
          go_roundw
          case rel => exact ⟨j + 1, ver, by omega, by omega, by simp, rfl, HF.out⟩
          case measure => simp only [intOf]; omega
        by_cases hk5 : xk = 5
        · subst hk5
          obtain ⟨q1, q2⟩ := HM.out.2.2.1.later (by omega) who w1 (j : Int)
          have cL := HM.out.1.later who (j : Int)
          rw [q1] at cL
          unfold ptr at cL
          rw [← HM.out.2.1 who w1 w4] at q2
          have HQ := hid q2
          clear q1 q2
          go_wp2_with (go_at_call 22; refine (cP _).mono ?_; rintro e w' ⟨rfl, rfl⟩)
          refine Calls.mono cL ?_
          rintro e u2 ⟨rfl, hom2⟩
          clear cL
          obtain ⟨ao, co, hvo⟩ := ownsRow_slice (hom2.oc.row who)
          obtain ⟨no, hno⟩ : ∃ no, no = (L who).length := ⟨_, rfl⟩
          rw [← hno] at hvo
          have hnol : no ≤ 1024 := by
            have := HM.out.2.2.1.ws who
            rw [← HM.out.2.1 who w1 w4, ← hno] at this
            omega
          have hlook := hom2.look who w1 w4
          rw [hvo] at hlook
          have b3 := (Below.refl u2.heap.size u2).alloc (Nat.le_refl _) (.cells #[.int .i64 (j : Int)] 3)
          have hom3 := hom2.below b3
          have ho3 := hom3.oc.row who
          rw [hvo, ← hno] at ho3
          have hx3 := Box.new u2 #[.int .i64 (j : Int)] 3
          have h2s : w.heap.size ≤ u2.heap.size := hom2.oc.bel.size
          obtain ⟨i0, hi0, hz0, hz1, hz2⟩ := info_parts info3'
          have HG := hid (And.intro hom3 (And.intro ho3 (And.intro hno hvo)))
          have HX := hid hx3
          clear hom2 hom3 ho3 hx3 b3 hno hvo c0' c1' c2' c3' hbq
          go_wp2_with (at_builtin; refine wpList_append_own_at _ rfl _ _ 52 rfl w.heap.size 3 i0 (.int .i64 0) 1 8 Try.underlying52 hi0 hz0 hz1 hz2 rfl (by decide) _ no _ rfl HG.out.2.1 ⟨u2.heap.size, 0, none⟩ 1 1 [.int .i64 (j : Int)] rfl rfl (World.news_of_block HX.out) ?c2 ?c3 ?c4 ?c5 ?_)
          case c2 => first | rfl | (intro u hu; simp at hu; subst hu; rfl)
          case c3 => unfold maxLen; omega
          case c4 => omega
          try (case c5 => first | exact h2s | (simp; omega))
          intro v' w5 hown5 hgrow _ hat
          obtain ⟨av', cv', rfl⟩ := ownsRow_slice hown5
          have hr5 : w5.ownsRow w.heap.size 3 1 (.slice av' (no + 1) cv') (L who ++ [(j : Int)]).length (ics (L who ++ [(j : Int)])) := by
            rw [List.length_append, ← HG.out.2.2.1, ics, List.map_append]
            exact hown5
          obtain ⟨u6, hrun, hom6⟩ := HG.out.1.wait (by have := HM.out.2.2.2; unfold maxLen; omega) who w1 w4 (by rw [HG.out.2.2.2]; exact hgrow) hr5 (by
            rw [HG.out.2.2.2]
            rcases hat with hat | hat
            · exact .inl hat
            · exact .inr (fun k hk => by rw [hat] at hk; injection hk with hk; simp; omega))
          have HF : Hid (St w u6 q u1.heap.size (u1.heap.size + 2) (u1.heap.size + 1) (V 5) ver (j + 1)) := ⟨_, _, _, _, _, by have := HM.out.2.2.2; omega, hom6, up_other _ _ _ _ (by omega), up_W HM.out.2.1 who _, (by rw [up_other _ _ _ _ (by omega), up_other _ _ _ _ (by omega)]; exact HQ.out)⟩
          clear hom6 hr5 hown5 hgrow hat HG HX HQ
          go_wp2_with fail
          go_roundw
          case rel => exact ⟨j + 1, ver, by omega, by omega, by simp, rfl, HF.out⟩
          case measure => simp only [intOf]; omega
        by_cases hk6 : xk = 6
        · subst hk6
          obtain ⟨q1, q2⟩ := HM.out.2.2.1.later (by omega) who w1 (j : Int)
          have cL := HM.out.1.later who (j : Int)
          rw [q1] at cL
          unfold ptr at cL
          rw [← HM.out.2.1 who w1 w4] at q2
          have HQ := hid q2
          clear q1 q2
          go_wp2_with (go_at_call 22; refine (cP _).mono ?_; rintro e w' ⟨rfl, rfl⟩)
          refine Calls.mono cL ?_
          rintro e u2 ⟨rfl, hom2⟩
          clear cL
          obtain ⟨ao, co, hvo⟩ := ownsRow_slice (hom2.oc.row who)
          obtain ⟨no, hno⟩ : ∃ no, no = (L who).length := ⟨_, rfl⟩
          rw [← hno] at hvo
          have hnol : no ≤ 1024 := by
            have := HM.out.2.2.1.ws who
            rw [← HM.out.2.1 who w1 w4, ← hno] at this
            omega
          have hlook := hom2.look who w1 w4
          rw [hvo] at hlook
          have b3 := (Below.refl u2.heap.size u2).alloc (Nat.le_refl _) (.cells #[.int .i64 (j : Int)] 3)
          have hom3 := hom2.below b3
          have ho3 := hom3.oc.row who
          rw [hvo, ← hno] at ho3
          have hx3 := Box.new u2 #[.int .i64 (j : Int)] 3
          have h2s : w.heap.size ≤ u2.heap.size := hom2.oc.bel.size
          obtain ⟨i0, hi0, hz0, hz1, hz2⟩ := info_parts info3'
          have HG := hid (And.intro hom3 (And.intro ho3 (And.intro hno hvo)))
          have HX := hid hx3
          clear hom2 hom3 ho3 hx3 b3 hno hvo c0' c1' c2' c3' hbq
          go_wp2_with (at_builtin; refine wpList_append_own_at _ rfl _ _ 52 rfl w.heap.size 3 i0 (.int .i64 0) 1 8 Try.underlying52 hi0 hz0 hz1 hz2 rfl (by decide) _ no _ rfl HG.out.2.1 ⟨u2.heap.size, 0, none⟩ 1 1 [.int .i64 (j : Int)] rfl rfl (World.news_of_block HX.out) ?c2 ?c3 ?c4 ?c5 ?_)
          case c2 => first | rfl | (intro u hu; simp at hu; subst hu; rfl)
          case c3 => unfold maxLen; omega
          case c4 => omega
          try (case c5 => first | exact h2s | (simp; omega))
          intro v' w5 hown5 hgrow _ hat
          obtain ⟨av', cv', rfl⟩ := ownsRow_slice hown5
          have hr5 : w5.ownsRow w.heap.size 3 1 (.slice av' (no + 1) cv') (L who ++ [(j : Int)]).length (ics (L who ++ [(j : Int)])) := by
            rw [List.length_append, ← HG.out.2.2.1, ics, List.map_append]
            exact hown5
          obtain ⟨u6, hrun, hom6⟩ := HG.out.1.wait (by have := HM.out.2.2.2; unfold maxLen; omega) who w1 w4 (by rw [HG.out.2.2.2]; exact hgrow) hr5 (by
            rw [HG.out.2.2.2]
            rcases hat with hat | hat
            · exact .inl hat
            · exact .inr (fun k hk => by rw [hat] at hk; injection hk with hk; simp; omega))
          have HF : Hid (St w u6 q u1.heap.size (u1.heap.size + 2) (u1.heap.size + 1) (V 5) ver (j + 1)) := ⟨_, _, _, _, _, by have := HM.out.2.2.2; omega, hom6, up_other _ _ _ _ (by omega), up_W HM.out.2.1 who _, (by rw [up_other _ _ _ _ (by omega), up_other _ _ _ _ (by omega)]; exact HQ.out)⟩
          clear hom6 hr5 hown5 hgrow hat HG HX HQ
          go_wp2_with fail
          go_roundw
          case rel => exact ⟨j + 1, ver, by omega, by omega, by simp, rfl, HF.out⟩
          case measure => simp only [intOf]; omega
        by_cases hk2 : xk = 2
        · subst hk2
          have hv0 := HM.out.2.2.1.v0
          have r2 : IntKind.i64.wrap (ver + 1) = ver + 1 := by rw [IntKind.wrap_i64]; omega
          obtain ⟨S', q1, q2⟩ := HM.out.2.2.1.commit who w1 w4
          have cC := HM.out.1.commit (by have := HM.out.2.2.1.few; omega) who (ver + 1)
          rw [q1] at cC
          unfold ptr at cC
          obtain ⟨no, hno⟩ : ∃ no, no = (L who).length := ⟨_, rfl⟩
          rw [← HM.out.2.1 who w1 w4, ← hno] at cC
          have hnol : no ≤ 1024 := by
            have := HM.out.2.2.1.ws who
            rw [← HM.out.2.1 who w1 w4, ← hno] at this
            omega
          obtain ⟨nt, hnt⟩ : ∃ nt, nt = (L 5).length := ⟨_, rfl⟩
          have hntl : nt ≤ 1024 := by have := HM.out.2.2.1.tl; omega
          have HQ := hid q2
          have HNO := hid (And.intro hno hnt)
          clear q1 q2 hv0 hno hnt
          go_wp2_with (go_at_call 22; refine (cP _).mono ?_; rintro e w' ⟨rfl, rfl⟩)
          refine Calls.mono cC ?_
          rintro e u2 ⟨rfl, hom2⟩
          clear cC
          have hlook := hom2.look who w1 w4
          obtain ⟨i0, hi0, hz0, hz1, hz2⟩ := info_parts info3'
          have h2s : w.heap.size ≤ u2.heap.size := hom2.oc.bel.size
          have ho5 := hom2.oc.row 5
          rw [HV.out, ← HNO.out.2] at ho5
          rw [HV.out, ← HNO.out.2]
          have hrw := hom2.oc.row who
          rcases hrw.2 with ⟨hvo, hn0⟩ | ⟨g, cap, cur, hvo, _, _, _, _, _, _⟩
          · rw [← HNO.out.1] at hn0
            rw [hvo] at hlook
            have hL0 : L who = [] := List.length_eq_zero_iff.1 (by rw [← HNO.out.1]; exact hn0)
            obtain rfl : no = 0 := hn0
            have HO5 := hid ho5
            have hom5 := hom2
            obtain ⟨u6, hrun, hom6⟩ := hom5.cut (by have := HM.out.2.2.2; unfold maxLen; omega) who w1 w4
            have HF : Hid (St w u6 q u1.heap.size (u1.heap.size + 2) (u1.heap.size + 1) (.slice av nt cv) (ver + 1) (j + 1)) := ⟨_, _, _, _, _, by have := HM.out.2.2.2; omega, hom6, by rw [up_other _ _ _ _ (by omega), HV.out, HNO.out.2], up_W HM.out.2.1 who _, (by
              rw [up_other _ _ _ _ (by omega), up_other _ _ _ _ (by omega)]
              have := HQ.out
              rw [← HM.out.2.1 who w1 w4, hL0, List.append_nil] at this
              exact this)⟩
            clear hom2 hom5 hom6 ho5 hrw c0' c1' c2' c3' hbq hvo hL0
            go_wp2_with (at_builtin; refine wpList_append_own_none rfl _ _ 52 rfl w.heap.size 3 i0 1 Try.underlying52 hi0 _ nt _ rfl HO5.out rfl ?_)
            go_roundw
            case rel => exact ⟨j + 1, ver + 1, by omega, by omega, by simp, rfl, HF.out⟩
            case measure => simp only [intOf]; omega
          · rw [← HNO.out.1] at hvo
            rw [hvo] at hlook
            have hnews : ∀ (k : Nat) (x : Value), (ics (L who))[k]? = some x → u2.cell? (Addr.add ⟨g, 0, none⟩ k) = some x := fun k x hk => by
              have hkl : k < (L who).length := by
                have := (List.getElem?_eq_some_iff.1 hk).1
                simpa [ics] using this
              obtain ⟨g', cap', e, hc⟩ := ownsRow_cell hrw k hkl
              rw [hvo] at e
              injection e with e _ _
              injection e with e
              injection e with e
              subst e
              rw [Addr.add_lit, Nat.zero_add]
              rw [hc]; exact hk
            obtain ⟨ys, hys⟩ : ∃ ys, ys = ics (L who) := ⟨_, rfl⟩
            have hyl : ys.length = no * 1 := by rw [hys, HNO.out.1]; simp [ics]
            have hy1 : ∀ u ∈ ys, u.oneCell' = true := fun u hu => by
              rw [hys, ics, List.mem_map] at hu
              obtain ⟨x, _, rfl⟩ := hu
              rfl
            rw [← hys] at hnews
            have HG := hid (And.intro hom2 (And.intro ho5 (And.intro hnews (And.intro hys (And.intro hyl hy1)))))
            clear hom2 ho5 hrw c0' c1' c2' c3' hbq hvo hnews hys hyl hy1
            go_wp2_with (at_builtin; refine wpList_append_own_at _ rfl _ _ 52 rfl w.heap.size 3 i0 (.int .i64 0) 1 8 Try.underlying52 hi0 hz0 hz1 hz2 rfl (by decide) _ nt _ rfl HG.out.2.1 ⟨g, 0, none⟩ no cap ys rfl HG.out.2.2.2.2.1 HG.out.2.2.1 HG.out.2.2.2.2.2 ?c3 ?c4 ?c5 ?_)
            case c3 => unfold maxLen; omega
            case c4 => omega
            try (case c5 => first | exact h2s | (simp; omega))
            intro v' w5 hown5 hgrow _ hat
            obtain ⟨av', cv', rfl⟩ := ownsRow_slice hown5
            have hr5 : w5.ownsRow w.heap.size 3 1 (.slice av' (nt + no) cv') (L 5 ++ L who).length (ics (L 5 ++ L who)) := by
              rw [List.length_append, ← HNO.out.1, ← HNO.out.2, ics, List.map_append]
              rw [HG.out.2.2.2.1] at hown5
              exact hown5
            have hom5 := HG.out.1.want (by rw [HV.out, HNO.out.2] at *; exact hgrow) hr5 (by
              rw [HV.out, ← HNO.out.2]
              rcases hat with hat | hat
              · exact .inl hat
              · exact .inr (fun k hk => by rw [hat] at hk; injection hk with hk; omega))
            obtain ⟨u6, hrun, hom6⟩ := hom5.cut (by have := HM.out.2.2.2; unfold maxLen; omega) who w1 w4
            have HF : Hid (St w u6 q u1.heap.size (u1.heap.size + 2) (u1.heap.size + 1) (.slice av' (nt + no) cv') (ver + 1) (j + 1)) := ⟨_, _, _, _, upW W who [], by have := HM.out.2.2.2; omega, hom6, by rw [up_other _ _ _ _ (by omega), up_same], fun o h1 h4 => (by
                unfold up upW
                split
                · rfl
                · rw [if_neg (by omega)]; exact HM.out.2.1 o h1 h4), (by
              rw [up_other _ _ _ _ (by omega), up_same, up_other _ _ _ _ (by omega), up_other _ _ _ _ (by omega)]
              have := HQ.out
              rw [← HM.out.2.1 who w1 w4] at this
              exact this)⟩
            clear hom5 hom6 hr5 hown5 hgrow hat HG
            go_wp2_with fail
            go_roundw
            case rel => exact ⟨j + 1, ver + 1, by omega, by omega, by simp, rfl, HF.out⟩
            case measure => simp only [intOf]; omega
        by_cases hk3x : xk = 3
        · subst hk3x
          obtain ⟨S', q1, q2⟩ := HM.out.2.2.1.drop who w1 w4
          have bd : Below (wr.alloc (.cells #[.int .i64 3, .int .i64 xo, .int .i64 xa, .int .i64 xv] 41)).heap.size (wr.alloc (.cells #[.int .i64 3, .int .i64 xo, .int .i64 xa, .int .i64 xv] 41)) (wr.alloc (.cells #[.int .i64 3, .int .i64 xo, .int .i64 xa, .int .i64 xv] 41)).drew := ⟨rfl, rfl, rfl, Nat.le_refl _, fun _ _ => rfl⟩
          have homd := HM.out.1.below bd
          have cD := homd.drop who
          rw [q1] at cD
          unfold ptr at cD
          obtain ⟨no, hno⟩ : ∃ no, no = (L who).length := ⟨_, rfl⟩
          rw [← HM.out.2.1 who w1 w4, ← hno] at cD
          obtain ⟨ao, co, hvo⟩ := ownsRow_slice (HM.out.1.oc.row who)
          rw [← hno] at hvo
          have hlook := HM.out.1.look who w1 w4
          rw [hvo] at hlook
          have KF : Hid (∀ x, OM w x q u1.heap.size (u1.heap.size + 2) (u1.heap.size + 1) n S' V L → x.cell? ⟨u1.heap.size, 0, none⟩ = some (.pointer (some ⟨q, 0, none⟩)) ∧ (Instr.lookup 51 (.map (some (u1.heap.size + 1))) (.int .i64 who) false).run Try.prog x = .ok (.slice ao no co) x) := fun x hx => ⟨hx.oc.bq.cell 0, by rw [← hvo]; exact hx.look who w1 w4⟩
          have KD : Hid (∀ x : World, (Instr.lookup 51 (.map (some (u1.heap.size + 1))) (.int .i64 who) false).run Try.prog (wr.alloc (.cells #[.int .i64 3, .int .i64 xo, .int .i64 xa, .int .i64 xv] 41)).drew = .ok (.slice ao no co) (wr.alloc (.cells #[.int .i64 3, .int .i64 xo, .int .i64 xa, .int .i64 xv] 41)).drew) := fun _ => by rw [← hvo]; exact homd.look who w1 w4
          have hlookd := KD.out wr
          have HQ := hid q2
          clear q1 q2 bd homd hno hvo
          go_wp2_with (go_at_call 22; refine (cP _).mono ?_; rintro e w' ⟨rfl, rfl⟩)
          go_region_held3 (fun u => u.cell? ⟨u1.heap.size, 0, none⟩ = some (.pointer (some ⟨q, 0, none⟩)) ∧ (Instr.lookup 51 (.map (some (u1.heap.size + 1))) (.int .i64 who) false).run Try.prog u = .ok (.slice ao no co) u) (first | exact KF.out _ hom5 | exact ⟨hbq, hlookd⟩ | go_keep) ((go_at_call 15; refine Calls.mono cD ?_; rintro e u2 ⟨rfl, hom5⟩))
          all_goals
            obtain ⟨u6, hrun, hom6⟩ := hom5.cut (by have := HM.out.2.2.2; unfold maxLen; omega) who w1 w4
            have HF : Hid (St w u6 q u1.heap.size (u1.heap.size + 2) (u1.heap.size + 1) (V 5) ver (j + 1)) := ⟨_, _, _, _, upW W who [], by have := HM.out.2.2.2; omega, hom6, up_other _ _ _ _ (by omega), up_W HM.out.2.1 who _, (by rw [up_other _ _ _ _ (by omega), up_other _ _ _ _ (by omega)]; exact HQ.out.up)⟩
            clear hom5 hom6
            go_wp2_with fail
            go_roundw
            case rel => exact ⟨j + 1, ver, by omega, by omega, by simp, rfl, HF.out⟩
            case measure => simp only [intOf]; omega
        by_cases hk4 : xk = 4
        · subst hk4
          obtain ⟨q1, q2⟩ := HM.out.2.2.1.take
          have hri : Rise En.ver S.due := by
            obtain ⟨F', ⟨_, _, _, hr⟩, _⟩ := HM.out.1.call
            exact hr
          have cT := tell_at HM.out.1 ver q1 HM.out.2.2.1.le hri (by have := HM.out.2.2.1.gl; have := HM.out.2.2.1.few; omega)
          unfold ptr at cT
          have HQ := hid q2
          clear q1 q2 hri
          go_wp2_with (go_at_call 22; refine (cP _).mono ?_; rintro e w' ⟨rfl, rfl⟩)
          refine Calls.mono cT ?_
          rintro e u2 ⟨rfl, vg, hom5⟩
          clear cT
          have HF : Hid (St w u2 q u1.heap.size (u1.heap.size + 2) (u1.heap.size + 1) (V 5) ver (j + 1)) := ⟨_, _, _, _, W, by have := HM.out.2.2.2; omega, hom5, up_other _ _ _ _ (by omega), fun o h1 h4 => (by rw [up_other _ _ _ _ (by omega)]; exact HM.out.2.1 o h1 h4), (by rw [up_other _ _ _ _ (by omega), up_same]; exact HQ.out.up)⟩
          clear hom5 HQ c0' c1' c2' c3' hbq
          go_wp2_with fail
          go_roundw
          case rel => exact ⟨j + 1, ver, by omega, by omega, by simp, rfl, HF.out⟩
          case measure => simp only [intOf]; omega
        have HF : Hid (St w (wr.alloc (.cells #[.int .i64 xk, .int .i64 xo, .int .i64 xa, .int .i64 xv] 41)) q u1.heap.size (u1.heap.size + 2) (u1.heap.size + 1) (V 5) ver (j + 1)) := ⟨_, _, _, _, _, by have := HM.out.2.2.2; omega, HM.out.1, rfl, HM.out.2.1, HM.out.2.2.1.up⟩
        go_wp2_with (go_at_call 22; refine (cP _).mono ?_; rintro e w' ⟨rfl, rfl⟩)
        go_roundw
        case rel => exact ⟨j + 1, ver, by omega, by omega, by simp, rfl, HF.out⟩
        case measure => simp only [intOf]; omega
      · have hki : (j : Int) < (n0 : Int) := by omega
        have hk3 : ¬ (j : Int) < 300 := by omega
        obtain ⟨n, S, V, L, W, hn2, hom, rfl, hLW, hord⟩ := hrel.out
        obtain ⟨q1, q2⟩ := hord.take
        have hri : Rise En.ver S.due := by
          obtain ⟨F', ⟨_, _, _, hr⟩, _⟩ := hom.call
          exact hr
        have cT := tell_at hom ver q1 hord.le hri (by have := hord.gl; have := hord.few; omega)
        unfold ptr at cT
        have hw := hord.want
        have hG := hord.tl
        rw [hw] at hG
        obtain ⟨G, hGe⟩ : ∃ G, G = L 6 ++ acts S.due := ⟨_, rfl⟩
        rw [← hGe] at cT hw hG
        obtain ⟨at5, ct5, hvt, hrd5⟩ := row_rdi (hom.oc.row 5)
        rw [hw] at hvt hrd5
        obtain ⟨ng, hng⟩ : ∃ ng, ng = G.length := ⟨_, rfl⟩
        rw [← hng] at hvt hG
        rw [hvt]
        have HW := hid (And.intro hw (And.intro hvt hng))
        clear hrel hom hord hLW q1 q2 hri hn2 hw hvt hGe hng hrd5
        go_wp2_with fail
        refine Calls.mono cT ?_
        rintro e u2 ⟨rfl, vg, hom5⟩
        clear cT
        have r5 := hom5.oc.row 5
        have r6 := hom5.oc.row 6
        rw [up_other _ _ _ _ (by omega), up_other _ _ _ _ (by omega), HW.out.1] at r5
        rw [up_same, up_same] at r6
        obtain ⟨a5, k5, e5, d5⟩ := row_rdi r5
        obtain ⟨a6, k6, e6, d6⟩ := row_rdi r6
        rw [HW.out.2.1, ← HW.out.2.2] at e5
        injection e5 with e51 _ e52
        subst e51 e52
        rw [← HW.out.2.2] at e6
        subst e6
        have hbg : u2.cell? ⟨u1.heap.size + 2, 0, none⟩ = some (.slice a6 ng k6) := by
          have := hom5.bg.cell 0
          rw [up_same] at this
          exact this
        have cS := sameInts_self ng k6 ct5 a6 at5 G u2 HW.out.2.2.symm (by omega) d6 d5
        have HB := hid hom5.oc.bel
        clear hom5 r5 r6 d5 d6
        go_wp2_with fail
        refine Calls.mono cS ?_
        rintro e u3 ⟨rfl, b3⟩
        have HB3 := hid (HB.out.trans (b3.mono HB.out.size))
        have ca := awake_at u3
        clear cS b3 hbg
        go_wp2_with fail
        refine Calls.mono ca ?_
        rintro e u4 ⟨rfl, b4⟩
        have HB4 := hid (HB3.out.trans (b4.mono HB3.out.size))
        clear ca b4
        go_wp2_with fail
        go_ret
        exact ⟨rfl, HB4.out⟩
    · have hki : ¬ (j : Int) < (n0 : Int) := by omega
      obtain ⟨n, S, V, L, W, hn2, hom, rfl, hLW, hord⟩ := hrel.out
      obtain ⟨q1, q2⟩ := hord.take
      have hri : Rise En.ver S.due := by
        obtain ⟨F', ⟨_, _, _, hr⟩, _⟩ := hom.call
        exact hr
      have cT := tell_at hom ver q1 hord.le hri (by have := hord.gl; have := hord.few; omega)
      unfold ptr at cT
      have hw := hord.want
      have hG := hord.tl
      rw [hw] at hG
      obtain ⟨G, hGe⟩ : ∃ G, G = L 6 ++ acts S.due := ⟨_, rfl⟩
      rw [← hGe] at cT hw hG
      obtain ⟨at5, ct5, hvt, hrd5⟩ := row_rdi (hom.oc.row 5)
      rw [hw] at hvt hrd5
      obtain ⟨ng, hng⟩ : ∃ ng, ng = G.length := ⟨_, rfl⟩
      rw [← hng] at hvt hG
      rw [hvt]
      have HW := hid (And.intro hw (And.intro hvt hng))
      clear hrel hom hord hLW q1 q2 hri hn2 hw hvt hGe hng hrd5
      go_wp2_with fail
      refine Calls.mono cT ?_
      rintro e u2 ⟨rfl, vg, hom5⟩
      clear cT
      have r5 := hom5.oc.row 5
      have r6 := hom5.oc.row 6
      rw [up_other _ _ _ _ (by omega), up_other _ _ _ _ (by omega), HW.out.1] at r5
      rw [up_same, up_same] at r6
      obtain ⟨a5, k5, e5, d5⟩ := row_rdi r5
      obtain ⟨a6, k6, e6, d6⟩ := row_rdi r6
      rw [HW.out.2.1, ← HW.out.2.2] at e5
      injection e5 with e51 _ e52
      subst e51 e52
      rw [← HW.out.2.2] at e6
      subst e6
      have hbg : u2.cell? ⟨u1.heap.size + 2, 0, none⟩ = some (.slice a6 ng k6) := by
        have := hom5.bg.cell 0
        rw [up_same] at this
        exact this
      have cS := sameInts_self ng k6 ct5 a6 at5 G u2 HW.out.2.2.symm (by omega) d6 d5
      have HB := hid hom5.oc.bel
      clear hom5 r5 r6 d5 d6
      go_wp2_with fail
      refine Calls.mono cS ?_
      rintro e u3 ⟨rfl, b3⟩
      have HB3 := hid (HB.out.trans (b3.mono HB.out.size))
      have ca := awake_at u3
      clear cS b3 hbg
      go_wp2_with fail
      refine Calls.mono ca ?_
      rintro e u4 ⟨rfl, b4⟩
      have HB4 := hid (HB3.out.trans (b4.mono HB3.out.size))
      clear ca b4
      go_wp2_with fail
      go_ret
      exact ⟨rfl, HB4.out⟩
end Go.Proofs.Ytlbnilendcelkaa
