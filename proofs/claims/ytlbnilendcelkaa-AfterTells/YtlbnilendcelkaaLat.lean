/-
  Later.
-/
import Derived.Test.YtlbnilendcelkaaPck
namespace Go.Proofs.Ytlbnilendcelkaa
open Go.RowKit
namespace I
set_option maxRecDepth 100000 in
set_option maxHeartbeats 4000000 in
theorem later_at {w : World} {B q : Nat} {S : QS Int} {F : Nat → Prop} (h0 : HasQ eI 49 33 w B q S F) (o : Int) (a : Int) :
    Calls Try.prog 8 #[ptr q, .int .i64 o, .int .i64 a] w fun r w' => r = .returned (.int .i64 (S.later o a).1) ∧ ToQ eI 49 33 w B q (S.later o a).2 F w' := by
  have HS : Hid (∀ n, ToQ eI 49 33 w B q S F (w.drewN n)) := fun n => ToQ.same h0 ⟨rfl, rfl, rfl, Nat.le_refl _, fun _ _ => rfl⟩
  obtain ⟨vw, vd, h, hri⟩ := h0
  have cm := isMade_at h.box
  have c1 : w.cell? ⟨q, 1, none⟩ = some vw := h.box.cell 1
  have c2 : w.cell? ⟨q, 2, none⟩ = some vd := h.box.cell 2
  have hrm := h.rm
  obtain ⟨aw, cw, hvw⟩ := ownsRow_slice h.rw
  obtain ⟨ad, cd, hvd⟩ := ownsRow_slice h.rd
  by_cases h1 : o < 1
  · have e : S.later o a = (2, S) := by unfold QS.later; rw [if_pos h1]
    rw [e]
    subst hvw hvd
    clear h hri c1 c2 hrm e
    unfold ptr at *
    go_enter Try.func8, Try.ntmps8
    go_wp2_with (go_at_call 24; refine cm.mono ?_; rintro e w' ⟨rfl, rfl⟩)
    go_ret
    exact ⟨rfl, HS.out 0⟩
  · by_cases h2 : 1024 ≤ S.wait.length + S.due.length
    · have e : S.later o a = (5, S) := by unfold QS.later; rw [if_neg h1, if_pos h2]
      rw [e]
      have h3 : S.wait.length + S.due.length = 1024 := by omega
      have h4 : (1024 : Int) ≤ (S.wait.length : Int) + (S.due.length : Int) := by omega
      have r1 : IntKind.i64.wrap ((S.wait.length : Int) + (S.due.length : Int)) = (S.wait.length : Int) + (S.due.length : Int) := by rw [IntKind.wrap_i64]; omega
      subst hvw hvd
      clear h hri hrm e h2 h3
      generalize S.wait.length = nw at *
      generalize S.due.length = nd at *
      unfold ptr at *
      go_enter Try.func8, Try.ntmps8
      go_wp2_with (go_at_call 24; refine cm.mono ?_; rintro e w' ⟨rfl, rfl⟩)
      go_quiet (fail)
      go_wp2
      go_ret
      exact ⟨rfl, HS.out _⟩
    · have e : S.later o a = (0, ⟨S.wait ++ [⟨0, o, a⟩], S.due⟩) := by unfold QS.later; rw [if_neg h1, if_neg h2]
      rw [e]
      have h4 : ¬ (1024 : Int) ≤ (S.wait.length : Int) + (S.due.length : Int) := by omega
      have r1 : IntKind.i64.wrap ((S.wait.length : Int) + (S.due.length : Int)) = (S.wait.length : Int) + (S.due.length : Int) := by rw [IntKind.wrap_i64]; omega
      obtain ⟨i0, hi0, hz0, hz1, hz2⟩ := info_parts infoI
      have HQ := hid (And.intro h hri)
      have HV := hid hvw
      obtain ⟨nw, hnw⟩ : ∃ nw, nw = S.wait.length := ⟨_, rfl⟩
      obtain ⟨nd, hnd⟩ : ∃ nd, nd = S.due.length := ⟨_, rfl⟩
      have hn1 : nw + nd < 1024 := by omega
      have HN := hid (And.intro hnw hnd)
      rw [← hnw, ← hnd] at h4 r1
      rw [hvw, ← hnw] at c1
      rw [hvd, ← hnd] at c2
      clear hvw hvd h hri hrm e h2 hnw hnd HS
      unfold ptr at *
      go_enter Try.func8, Try.ntmps8
      go_wp2_with (go_at_call 24; refine cm.mono ?_; rintro e w' ⟨rfl, rfl⟩)
      go_quiet (fail)
      obtain ⟨wx, hwx⟩ : ∃ wx, wx = w'.drewN nq := ⟨_, rfl⟩
      have hq1 : Below w'.heap.size w' wx := hwx ▸ ⟨rfl, rfl, rfl, Nat.le_refl _, fun _ _ => rfl⟩
      have hqx := HQ.out.1.below hq1
      have HX := hid (And.intro hqx hq1)
      have c1x : wx.cell? ⟨q, 1, none⟩ = some (.slice aw nw cw) := (hq1.cell (p := ⟨q, 1, none⟩) HQ.out.1.box.lt).trans c1
      rw [← hwx]
      clear hwx hqx hq1 c1 c2
      have b2 := Box.new wx #[.int .i64 0, .int .i64 o, .int .i64 a] 33
      have hq3 := (Below.refl wx.heap.size wx).alloc (Nat.le_refl _) (.cells #[.int .i64 0, .int .i64 o, .int .i64 a] 33)
      have hqA := HX.out.1.below hq3
      have hrow := hqA.rw
      rw [HV.out, ← HN.out.1] at hrow
      unfold IsRow at hrow
      rw [← HN.out.1] at hrow
      have HR := hid hrow
      have HA := hid (And.intro hqA hq3)
      have HB2 := hid b2
      have hBs : B ≤ wx.heap.size := by have := HX.out.1.fB q HX.out.1.fq; omega
      clear hrow hqA hq3 b2
      go_wp2_with (at_builtin; refine wpList_append_own_at _ rfl _ _ 28 rfl B 33 i0 (.agg #[.int .i64 0, .int .i64 0, .int .i64 0]) 3 24 Try.underlying28 hi0 hz0 hz1 hz2 rfl (by decide) _ nw _ rfl HR.out ⟨wx.heap.size, 0, none⟩ 1 1 [.int .i64 0, .int .i64 o, .int .i64 a] rfl rfl (World.news_of_block HB2.out) ?c2 ?c3 ?c4 ?c5 ?_)
      case c2 => intro u hu; simp at hu; rcases hu with rfl | rfl | rfl <;> rfl
      case c3 => unfold maxLen; omega
      case c4 => omega
      case c5 => simp; omega
      intro v' w4 hown4 hgrow _ hat
      obtain ⟨av', cv', hv'⟩ := ownsRow_slice hown4
      subst hv'
      have hr4 : IsRow eI 33 w4 B (.slice av' (nw + 1) cv') (S.wait ++ [⟨0, o, a⟩]) := by
        unfold IsRow
        rw [List.length_append, List.length_singleton, ← HN.out.1, flat_app]
        exact hown4
      have hgc := Chg.ofGrown hgrow
      have hsz : (wx.alloc (.cells #[.int .i64 0, .int .i64 o, .int .i64 a] 33)).heap.size = wx.heap.size + 1 := by simp
      have hvw2 := HV.out
      rw [← HN.out.1] at hvw2
      have hput := HA.out.1.putW (W := S.wait ++ [⟨0, o, a⟩]) (v' := .slice av' (nw + 1) cv') (by rw [hvw2]; exact hgc) hr4 (by
        rcases hat with hat | hat
        · exact .inl (by rw [hvw2]; exact hat)
        · exact .inr (fun k hk => by rw [hat] at hk; injection hk with hk; rw [hsz]; omega)) (by have := HN.out; simp; omega)
      have d1 : w4.cell? ⟨q, 1, none⟩ = some (.slice aw nw cw) := by
        rw [← hvw2]
        have hbx := HA.out.1.box.chg hgc (fun e => (HA.out.1.fw q (by rw [hvw2]; exact e)).2 rfl)
        exact hbx.cell 1
      have d2 : w4.frozen? ⟨q, 1, none⟩ = false := by
        have hbx := HA.out.1.box.chg hgc (fun e => (HA.out.1.fw q (by rw [hvw2]; exact e)).2 rfl)
        exact hbx.frozen 1
      have HF : Hid (ToQ eI 49 33 w' B q ⟨S.wait ++ [⟨0, o, a⟩], S.due⟩ F (w4.setCell ⟨q, 1, none⟩ (.slice av' (nw + 1) cv'))) := by
        refine ToQ.from HX.out.2 (ToQ.from HA.out.2 ⟨⟨_, fun k hk => ?_, _, vd, hput.1, HQ.out.2⟩, hput.2⟩)
        rcases hk with hk | hk
        · exact .inl hk
        · rcases hat with hat | hat
          · exact .inl (HA.out.1.fw k (by rw [hvw2]; rw [← hat]; exact hk)).1
          · rw [hat] at hk; injection hk with hk; exact .inr (by rw [hsz]; omega)
      clear hput hgc hr4 hown4 hgrow hat hvw2
      go_wp2
      go_ret
      exact ⟨rfl, HF.out⟩
end I
namespace S
set_option maxRecDepth 100000 in
set_option maxHeartbeats 4000000 in
theorem later_at {w : World} {B q : Nat} {S : QS ByteArray} {F : Nat → Prop} (h0 : HasQ eS 70 67 w B q S F) (o : Int) (a : ByteArray) :
    Calls Try.prog 32 #[ptr q, .int .i64 o, .string a] w fun r w' => r = .returned (.int .i64 (S.later o a).1) ∧ ToQ eS 70 67 w B q (S.later o a).2 F w' := by
  have HS : Hid (∀ n, ToQ eS 70 67 w B q S F (w.drewN n)) := fun n => ToQ.same h0 ⟨rfl, rfl, rfl, Nat.le_refl _, fun _ _ => rfl⟩
  obtain ⟨vw, vd, h, hri⟩ := h0
  have cm := isMade_at h.box
  have c1 : w.cell? ⟨q, 1, none⟩ = some vw := h.box.cell 1
  have c2 : w.cell? ⟨q, 2, none⟩ = some vd := h.box.cell 2
  have hrm := h.rm
  obtain ⟨aw, cw, hvw⟩ := ownsRow_slice h.rw
  obtain ⟨ad, cd, hvd⟩ := ownsRow_slice h.rd
  by_cases h1 : o < 1
  · have e : S.later o a = (2, S) := by unfold QS.later; rw [if_pos h1]
    rw [e]
    subst hvw hvd
    clear h hri c1 c2 hrm e
    unfold ptr at *
    go_enter Try.func32, Try.ntmps32
    go_wp2_with (go_at_call 39; refine cm.mono ?_; rintro e w' ⟨rfl, rfl⟩)
    go_ret
    exact ⟨rfl, HS.out 0⟩
  · by_cases h2 : 1024 ≤ S.wait.length + S.due.length
    · have e : S.later o a = (5, S) := by unfold QS.later; rw [if_neg h1, if_pos h2]
      rw [e]
      have h3 : S.wait.length + S.due.length = 1024 := by omega
      have h4 : (1024 : Int) ≤ (S.wait.length : Int) + (S.due.length : Int) := by omega
      have r1 : IntKind.i64.wrap ((S.wait.length : Int) + (S.due.length : Int)) = (S.wait.length : Int) + (S.due.length : Int) := by rw [IntKind.wrap_i64]; omega
      subst hvw hvd
      clear h hri hrm e h2 h3
      generalize S.wait.length = nw at *
      generalize S.due.length = nd at *
      unfold ptr at *
      go_enter Try.func32, Try.ntmps32
      go_wp2_with (go_at_call 39; refine cm.mono ?_; rintro e w' ⟨rfl, rfl⟩)
      go_quiet (fail)
      go_wp2
      go_ret
      exact ⟨rfl, HS.out _⟩
    · have e : S.later o a = (0, ⟨S.wait ++ [⟨0, o, a⟩], S.due⟩) := by unfold QS.later; rw [if_neg h1, if_neg h2]
      rw [e]
      have h4 : ¬ (1024 : Int) ≤ (S.wait.length : Int) + (S.due.length : Int) := by omega
      have r1 : IntKind.i64.wrap ((S.wait.length : Int) + (S.due.length : Int)) = (S.wait.length : Int) + (S.due.length : Int) := by rw [IntKind.wrap_i64]; omega
      obtain ⟨i0, hi0, hz0, hz1, hz2⟩ := info_parts infoS
      have HQ := hid (And.intro h hri)
      have HV := hid hvw
      obtain ⟨nw, hnw⟩ : ∃ nw, nw = S.wait.length := ⟨_, rfl⟩
      obtain ⟨nd, hnd⟩ : ∃ nd, nd = S.due.length := ⟨_, rfl⟩
      have hn1 : nw + nd < 1024 := by omega
      have HN := hid (And.intro hnw hnd)
      rw [← hnw, ← hnd] at h4 r1
      rw [hvw, ← hnw] at c1
      rw [hvd, ← hnd] at c2
      clear hvw hvd h hri hrm e h2 hnw hnd HS
      unfold ptr at *
      go_enter Try.func32, Try.ntmps32
      go_wp2_with (go_at_call 39; refine cm.mono ?_; rintro e w' ⟨rfl, rfl⟩)
      go_quiet (fail)
      obtain ⟨wx, hwx⟩ : ∃ wx, wx = w'.drewN nq := ⟨_, rfl⟩
      have hq1 : Below w'.heap.size w' wx := hwx ▸ ⟨rfl, rfl, rfl, Nat.le_refl _, fun _ _ => rfl⟩
      have hqx := HQ.out.1.below hq1
      have HX := hid (And.intro hqx hq1)
      have c1x : wx.cell? ⟨q, 1, none⟩ = some (.slice aw nw cw) := (hq1.cell (p := ⟨q, 1, none⟩) HQ.out.1.box.lt).trans c1
      rw [← hwx]
      clear hwx hqx hq1 c1 c2
      have b2 := Box.new wx #[.int .i64 0, .int .i64 o, .string a] 67
      have hq3 := (Below.refl wx.heap.size wx).alloc (Nat.le_refl _) (.cells #[.int .i64 0, .int .i64 o, .string a] 67)
      have hqA := HX.out.1.below hq3
      have hrow := hqA.rw
      rw [HV.out, ← HN.out.1] at hrow
      unfold IsRow at hrow
      rw [← HN.out.1] at hrow
      have HR := hid hrow
      have HA := hid (And.intro hqA hq3)
      have HB2 := hid b2
      have hBs : B ≤ wx.heap.size := by have := HX.out.1.fB q HX.out.1.fq; omega
      clear hrow hqA hq3 b2
      go_wp2_with (at_builtin; refine wpList_append_own_at _ rfl _ _ 64 rfl B 67 i0 (.agg #[.int .i64 0, .int .i64 0, .string .empty]) 3 32 Try.underlying64 hi0 hz0 hz1 hz2 rfl (by decide) _ nw _ rfl HR.out ⟨wx.heap.size, 0, none⟩ 1 1 [.int .i64 0, .int .i64 o, .string a] rfl rfl (World.news_of_block HB2.out) ?c2 ?c3 ?c4 ?c5 ?_)
      case c2 => intro u hu; simp at hu; rcases hu with rfl | rfl | rfl <;> rfl
      case c3 => unfold maxLen; omega
      case c4 => omega
      case c5 => simp; omega
      intro v' w4 hown4 hgrow _ hat
      obtain ⟨av', cv', hv'⟩ := ownsRow_slice hown4
      subst hv'
      have hr4 : IsRow eS 67 w4 B (.slice av' (nw + 1) cv') (S.wait ++ [⟨0, o, a⟩]) := by
        unfold IsRow
        rw [List.length_append, List.length_singleton, ← HN.out.1, flat_app]
        exact hown4
      have hgc := Chg.ofGrown hgrow
      have hsz : (wx.alloc (.cells #[.int .i64 0, .int .i64 o, .string a] 67)).heap.size = wx.heap.size + 1 := by simp
      have hvw2 := HV.out
      rw [← HN.out.1] at hvw2
      have hput := HA.out.1.putW (W := S.wait ++ [⟨0, o, a⟩]) (v' := .slice av' (nw + 1) cv') (by rw [hvw2]; exact hgc) hr4 (by
        rcases hat with hat | hat
        · exact .inl (by rw [hvw2]; exact hat)
        · exact .inr (fun k hk => by rw [hat] at hk; injection hk with hk; rw [hsz]; omega)) (by have := HN.out; simp; omega)
      have d1 : w4.cell? ⟨q, 1, none⟩ = some (.slice aw nw cw) := by
        rw [← hvw2]
        have hbx := HA.out.1.box.chg hgc (fun e => (HA.out.1.fw q (by rw [hvw2]; exact e)).2 rfl)
        exact hbx.cell 1
      have d2 : w4.frozen? ⟨q, 1, none⟩ = false := by
        have hbx := HA.out.1.box.chg hgc (fun e => (HA.out.1.fw q (by rw [hvw2]; exact e)).2 rfl)
        exact hbx.frozen 1
      have HF : Hid (ToQ eS 70 67 w' B q ⟨S.wait ++ [⟨0, o, a⟩], S.due⟩ F (w4.setCell ⟨q, 1, none⟩ (.slice av' (nw + 1) cv'))) := by
        refine ToQ.from HX.out.2 (ToQ.from HA.out.2 ⟨⟨_, fun k hk => ?_, _, vd, hput.1, HQ.out.2⟩, hput.2⟩)
        rcases hk with hk | hk
        · exact .inl hk
        · rcases hat with hat | hat
          · exact .inl (HA.out.1.fw k (by rw [hvw2]; rw [← hat]; exact hk)).1
          · rw [hat] at hk; injection hk with hk; exact .inr (by rw [hsz]; omega)
      clear hput hgc hr4 hown4 hgrow hat hvw2
      go_wp2
      go_ret
      exact ⟨rfl, HF.out⟩
end S
end Go.Proofs.Ytlbnilendcelkaa
