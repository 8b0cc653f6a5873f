/-
  The document's Later.
-/
import Derived.Test.YtlbnilendcelkaaRf3
import Derived.Test.YtlbnilendcelkaaLat
namespace Go.Proofs.Ytlbnilendcelkaa
open Go.RowKit
theorem IsRf.putD {w w4 : World} {B q : Nat} {S : QS Int} {F : Nat → Prop} {vw vd v' : Value} {D : List (En Int)} (h : IsRf w B q S F vw vd) (hg : Chg (fun k => vd.ownBlock = some k) w w4) (hr : IsRow eR 46 w4 B v' D) (hb : v'.ownBlock = vd.ownBlock ∨ ∀ k, v'.ownBlock = some k → w.heap.size ≤ k) (hrm : S.wait.length + D.length ≤ 1024) :
    IsRf (w4.setCell ⟨q, 1, none⟩ v') B q ⟨S.wait, D⟩ (fun i => F i ∨ v'.ownBlock = some i) vw v' ∧ Chg F w (w4.setCell ⟨q, 1, none⟩ v') := by
  have hq := h.fB q h.fq
  have hqd : vd.ownBlock ≠ some q := fun e => (h.fd q e).2 rfl
  have hsq : Chg (fun k => k = q) w4 (w4.setCell ⟨q, 1, none⟩ v') := (Chg.refl (fun k => k = q) w4).setCell q 1 v' (fun _ => rfl)
  have hq4 : v'.ownBlock ≠ some q := fun e => by
    rcases hb with hb | hb
    · exact hqd (hb ▸ e)
    · have := hb q e; omega
  have hwr := (h.rw.chg hg (fun b e e' => h.ne b e e')).chg hsq (fun b e e' => (h.fw b e).2 e')
  refine ⟨⟨.inl h.fq, fun k hk => ?_, ?_, hwr, hr.chg hsq (fun b e e' => hq4 (e' ▸ e)), fun k e => ⟨.inl (h.fw k e).1, (h.fw k e).2⟩, fun k e => ⟨.inr e, fun e' => hq4 (e' ▸ e)⟩, fun k e e' => ?_, hrm⟩, ?_⟩
  · rcases hk with hk | hk
    · exact ⟨(h.fB k hk).1, by have := (h.fB k hk).2; have := hg.size; simp [World.setCell]; omega⟩
    · exact ⟨(hr.lt k hk).2, by have := (hr.lt k hk).1; simpa [World.setCell] using this⟩
  · have := (h.box.chg hg (fun e => hqd e)).store 1 v'
    simpa using this
  · rcases hb with hb | hb
    · exact h.ne k e (hb ▸ e')
    · have := hb k e'; have := (h.rw.lt k e).1; omega
  · exact (hg.mono (fun i _ e => (h.fd i e).1)).trans hsq (fun i _ e => by rw [e]; exact h.fq)
theorem IsRf.putW {w w4 : World} {B q : Nat} {S : QS Int} {F : Nat → Prop} {vw vd v' : Value} {W : List (En Int)} (h : IsRf w B q S F vw vd) (hg : Chg (fun k => vw.ownBlock = some k) w w4) (hr : IsRow eR 46 w4 B v' W) (hb : v'.ownBlock = vw.ownBlock ∨ ∀ k, v'.ownBlock = some k → w.heap.size ≤ k) (hrm : W.length + S.due.length ≤ 1024) :
    IsRf (w4.setCell ⟨q, 0, none⟩ v') B q ⟨W, S.due⟩ (fun i => F i ∨ v'.ownBlock = some i) v' vd ∧ Chg F w (w4.setCell ⟨q, 0, none⟩ v') := by
  have hq := h.fB q h.fq
  have hqd : vw.ownBlock ≠ some q := fun e => (h.fw q e).2 rfl
  have hsq : Chg (fun k => k = q) w4 (w4.setCell ⟨q, 0, none⟩ v') := (Chg.refl (fun k => k = q) w4).setCell q 0 v' (fun _ => rfl)
  have hq4 : v'.ownBlock ≠ some q := fun e => by
    rcases hb with hb | hb
    · exact hqd (hb ▸ e)
    · have := hb q e; omega
  have hdr := (h.rd.chg hg (fun b e e' => h.ne b e' e)).chg hsq (fun b e e' => (h.fd b e).2 e')
  refine ⟨⟨.inl h.fq, fun k hk => ?_, ?_, hr.chg hsq (fun b e e' => hq4 (e' ▸ e)), hdr, fun k e => ⟨.inr e, fun e' => hq4 (e' ▸ e)⟩, fun k e => ⟨.inl (h.fd k e).1, (h.fd k e).2⟩, fun k e e' => ?_, hrm⟩, ?_⟩
  · rcases hk with hk | hk
    · exact ⟨(h.fB k hk).1, by have := (h.fB k hk).2; have := hg.size; simp [World.setCell]; omega⟩
    · exact ⟨(hr.lt k hk).2, by have := (hr.lt k hk).1; simpa [World.setCell] using this⟩
  · have := (h.box.chg hg (fun e => hqd e)).store 0 v'
    simpa using this
  · rcases hb with hb | hb
    · exact h.ne k (hb ▸ e) e'
    · have := hb k e; have := (h.rd.lt k e').1; omega
  · exact (hg.mono (fun i _ e => (h.fw i e).1)).trans hsq (fun i _ e => by rw [e]; exact h.fq)
theorem ToR.trans {w w1 w2 : World} {B q : Nat} {S : QS Int} {F F1 : Nat → Prop} (hc : Chg F w w1) (hF : ∀ k, F1 k → F k ∨ w.heap.size ≤ k) (h : ToR w1 B q S F1 w2) : ToR w B q S F w2 := by
  obtain ⟨⟨F2, h2, h3⟩, h4⟩ := h
  refine ⟨⟨F2, fun k hk => ?_, h3⟩, hc.trans h4 (fun i hi hx => ?_)⟩
  · rcases h2 k hk with e | e
    · exact hF k e
    · exact .inr (Nat.le_trans hc.size e)
  · rcases hF i hx with e | e
    · exact e
    · omega
theorem ToR.below {w w1 w2 : World} {B q : Nat} {S : QS Int} {F : Nat → Prop} (h : ToR w B q S F w1) (hb : Below w1.heap.size w1 w2) : ToR w B q S F w2 := by
  obtain ⟨⟨F2, h2, h3⟩, h4⟩ := h
  exact ⟨⟨F2, h2, h3.below hb⟩, h4.trans (S' := fun _ => False) (Chg.ofBelow hb) (fun _ _ x => x.elim)⟩
/-- from a world that has only more blocks -/
theorem ToR.from {w w1 w2 : World} {B q : Nat} {S : QS Int} {F : Nat → Prop} (hb : Below w.heap.size w w1) (h : ToR w1 B q S F w2) : ToR w B q S F w2 := ToR.trans (Chg.ofBelow hb) (fun _ x => .inl x) h

set_option maxRecDepth 100000 in
set_option maxHeartbeats 4000000 in
theorem rlater_at {w : World} {B q : Nat} {S : QS Int} {F : Nat → Prop} (h0 : HasR w B q S F) (o : Int) (a : Int) :
    Calls Try.prog 13 #[ptr q, .int .i64 o, .int .i64 a] w fun r w' => r = .returned (.int .i64 (S.later o a).1) ∧ ToR w B q (S.later o a).2 F w' := by
  have HS : Hid (∀ n, ToR w B q S F (w.drewN n)) := fun n => ToR.same h0 ⟨rfl, rfl, rfl, Nat.le_refl _, fun _ _ => rfl⟩
  obtain ⟨vw, vd, h, hri⟩ := h0
  have c1 : w.cell? ⟨q, 0, none⟩ = some vw := h.box.cell 0
  have c2 : w.cell? ⟨q, 1, none⟩ = some vd := h.box.cell 1
  have hrm := h.rm
  obtain ⟨aw, cw, hvw⟩ := ownsRow_slice h.rw
  obtain ⟨ad, cd, hvd⟩ := ownsRow_slice h.rd
  by_cases h1 : o < 1
  · have e : S.later o a = (2, S) := by unfold QS.later; rw [if_pos h1]
    rw [e]
    subst hvw hvd
    clear h hri c1 c2 hrm e
    unfold ptr at *
    go_enter Try.func13, Try.ntmps13
    go_wp2_with fail
    go_ret
    exact ⟨rfl, HS.out 0⟩
  · by_cases h2 : 1024 ≤ S.wait.length + S.due.length
    · have e : S.later o a = (5, S) := by unfold QS.later; rw [if_neg h1, if_pos h2]
      rw [e]
      have h3 : S.wait.length + S.due.length = 1024 := by omega
      have h4 : (S.wait.length : Int) + (S.due.length : Int) = 1024 := by omega
      have r1 : IntKind.i64.wrap ((S.wait.length : Int) + (S.due.length : Int)) = (S.wait.length : Int) + (S.due.length : Int) := by rw [IntKind.wrap_i64]; omega
      subst hvw hvd
      clear h hri hrm e h2 h3
      generalize S.wait.length = nw at *
      generalize S.due.length = nd at *
      unfold ptr at *
      go_enter Try.func13, Try.ntmps13
      go_wp2_with fail
      go_quiet (fail)
      go_wp2
      go_ret
      exact ⟨rfl, HS.out _⟩
    · have e : S.later o a = (0, ⟨S.wait ++ [⟨0, o, a⟩], S.due⟩) := by unfold QS.later; rw [if_neg h1, if_neg h2]
      rw [e]
      have h4 : ¬ (S.wait.length : Int) + (S.due.length : Int) = 1024 := by omega
      have r1 : IntKind.i64.wrap ((S.wait.length : Int) + (S.due.length : Int)) = (S.wait.length : Int) + (S.due.length : Int) := by rw [IntKind.wrap_i64]; omega
      obtain ⟨i0, hi0, hz0, hz1, hz2⟩ := info_parts infoR
      have HQ := hid (And.intro h hri)
      have HV := hid hvw
      obtain ⟨nw, hnw⟩ : ∃ nw, nw = S.wait.length := ⟨_, rfl⟩
      obtain ⟨nd, hnd⟩ : ∃ nd, nd = S.due.length := ⟨_, rfl⟩
      have hn1 : nw + nd < 1024 := by omega
      have HN := hid (And.intro hnw hnd)
      rw [← hnw, ← hnd] at h4 r1
      rw [hvw, ← hnw] at c1
      rw [hvd, ← hnd] at c2
      clear hvw hvd h hri hrm e h2 hnw hnd HS
      unfold ptr at *
      go_enter Try.func13, Try.ntmps13
      go_wp2_with fail
      go_quiet (fail)
      obtain ⟨wx, hwx⟩ : ∃ wx, wx = w.drewN nq := ⟨_, rfl⟩
      have hq1 : Below w.heap.size w wx := hwx ▸ ⟨rfl, rfl, rfl, Nat.le_refl _, fun _ _ => rfl⟩
      have hqx := HQ.out.1.below hq1
      have HX := hid (And.intro hqx hq1)
      have c1x : wx.cell? ⟨q, 0, none⟩ = some (.slice aw nw cw) := (hq1.cell (p := ⟨q, 0, none⟩) HQ.out.1.box.lt).trans c1
      rw [← hwx]
      clear hwx hqx hq1 c1 c2
      have b2 := Box.new wx #[.int .i64 o, .int .i64 a, .int .i64 0] 46
      have hq3 := (Below.refl wx.heap.size wx).alloc (Nat.le_refl _) (.cells #[.int .i64 o, .int .i64 a, .int .i64 0] 46)
      have hqA := HX.out.1.below hq3
      have hrow := hqA.rw
      rw [HV.out, ← HN.out.1] at hrow
      unfold IsRow at hrow
      rw [← HN.out.1] at hrow
      have HR := hid hrow
      have HA := hid (And.intro hqA hq3)
      have HB2 := hid b2
      have hBs : B ≤ wx.heap.size := by have := HX.out.1.fB q HX.out.1.fq; omega
      clear hrow hqA hq3 b2
      go_wp2_with (at_builtin; refine wpList_append_own_at _ rfl _ _ 37 rfl B 46 i0 (.agg #[.int .i64 0, .int .i64 0, .int .i64 0]) 3 24 Try.underlying37 hi0 hz0 hz1 hz2 rfl (by decide) _ nw _ rfl HR.out ⟨wx.heap.size, 0, none⟩ 1 1 [.int .i64 o, .int .i64 a, .int .i64 0] rfl rfl (World.news_of_block HB2.out) ?c2 ?c3 ?c4 ?c5 ?_)
      case c2 => intro u hu; simp at hu; rcases hu with rfl | rfl | rfl <;> rfl
      case c3 => unfold maxLen; omega
      case c4 => omega
      case c5 => simp; omega
      intro v' w4 hown4 hgrow _ hat
      obtain ⟨av', cv', hv'⟩ := ownsRow_slice hown4
      subst hv'
      have hr4 : IsRow eR 46 w4 B (.slice av' (nw + 1) cv') (S.wait ++ [⟨0, o, a⟩]) := by
        unfold IsRow
        rw [List.length_append, List.length_singleton, ← HN.out.1, flat_app]
        exact hown4
      have hgc := Chg.ofGrown hgrow
      have hsz : (wx.alloc (.cells #[.int .i64 o, .int .i64 a, .int .i64 0] 46)).heap.size = wx.heap.size + 1 := by simp
      have hvw2 := HV.out
      rw [← HN.out.1] at hvw2
      have hput := HA.out.1.putW (W := S.wait ++ [⟨0, o, a⟩]) (v' := .slice av' (nw + 1) cv') (by rw [hvw2]; exact hgc) hr4 (by
        rcases hat with hat | hat
        · exact .inl (by rw [hvw2]; exact hat)
        · exact .inr (fun k hk => by rw [hat] at hk; injection hk with hk; rw [hsz]; omega)) (by have := HN.out; simp; omega)
      have d1 : w4.cell? ⟨q, 0, none⟩ = some (.slice aw nw cw) := by
        rw [← hvw2]
        have hbx := HA.out.1.box.chg hgc (fun e => (HA.out.1.fw q (by rw [hvw2]; exact e)).2 rfl)
        exact hbx.cell 0
      have d2 : w4.frozen? ⟨q, 0, none⟩ = false := by
        have hbx := HA.out.1.box.chg hgc (fun e => (HA.out.1.fw q (by rw [hvw2]; exact e)).2 rfl)
        exact hbx.frozen 0
      have HF : Hid (ToR w B q ⟨S.wait ++ [⟨0, o, a⟩], S.due⟩ F (w4.setCell ⟨q, 0, none⟩ (.slice av' (nw + 1) cv'))) := by
        refine ToR.from HX.out.2 (ToR.from HA.out.2 ⟨⟨_, fun k hk => ?_, _, vd, hput.1, HQ.out.2⟩, hput.2⟩)
        rcases hk with hk | hk
        · exact .inl hk
        · rcases hat with hat | hat
          · exact .inl (HA.out.1.fw k (by rw [hvw2]; rw [← hat]; exact hk)).1
          · rw [hat] at hk; injection hk with hk; exact .inr (by rw [hsz]; omega)
      clear hput hgc hr4 hown4 hgrow hat hvw2
      go_wp2
      go_ret
      exact ⟨rfl, HF.out⟩
end Go.Proofs.Ytlbnilendcelkaa
