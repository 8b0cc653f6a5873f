/-
  The document's Commit.
-/
import Derived.Test.YtlbnilendcelkaaRfP
import Derived.Test.YtlbnilendcelkaaLate
namespace Go.Proofs.Ytlbnilendcelkaa
open Go.RowKit
/-- as IsRf, whatever the lengths are -/
structure IsRn (w : World) (B r : Nat) (W D : List (En Int)) (F : Nat → Prop) (vw vd : Value) : Prop where
  fq : F r
  fB : ∀ k, F k → B ≤ k ∧ k < w.heap.size
  box : Box w r #[vw, vd] 39
  rw : IsRow eR 46 w B vw W
  rd : IsRow eR 46 w B vd D
  fw : ∀ k, vw.ownBlock = some k → F k ∧ k ≠ r
  fd : ∀ k, vd.ownBlock = some k → F k ∧ k ≠ r
  ne : ∀ k, vw.ownBlock = some k → vd.ownBlock ≠ some k
theorem IsRn.chg {w w' : World} {B r : Nat} {W D : List (En Int)} {F G : Nat → Prop} {vw vd : Value} (h : IsRn w B r W D F vw vd) (k : Chg G w w') (hn : ∀ i, F i → ¬ G i) : IsRn w' B r W D F vw vd :=
  ⟨h.fq, fun i hi => ⟨(h.fB i hi).1, Nat.lt_of_lt_of_le (h.fB i hi).2 k.size⟩, h.box.chg k (hn _ h.fq), h.rw.chg k (fun b hb => hn _ (h.fw b hb).1), h.rd.chg k (fun b hb => hn _ (h.fd b hb).1), h.fw, h.fd, h.ne⟩
theorem IsRn.below {w w' : World} {B r : Nat} {W D : List (En Int)} {F : Nat → Prop} {vw vd : Value} (h : IsRn w B r W D F vw vd) (k : Below w.heap.size w w') : IsRn w' B r W D F vw vd := h.chg (G := fun _ => False) (Chg.ofBelow k) (fun _ _ x => x)
/-- while a Commit goes through the waits: what is due so far, what is left so far -/
def RcV (w u : World) (B r : Nat) (W D L : List (En Int)) (F : Nat → Prop) (vw vl vd : Value) : Prop :=
  ∃ F1, IsRn u B r W D F1 vw vd ∧ (∀ i, F1 i → F i ∨ w.heap.size ≤ i) ∧ Chg F w u ∧ IsRow eR 46 u w.heap.size vl L ∧ ∀ b, vl.ownBlock = some b → ¬ F1 b
theorem RcV.below {w u u' : World} {B r : Nat} {W D L : List (En Int)} {F : Nat → Prop} {vw vl vd : Value} (h : RcV w u B r W D L F vw vl vd) (hb : Below u.heap.size u u') : RcV w u' B r W D L F vw vl vd := by
  obtain ⟨F1, h1, h2, h3, h4, h5⟩ := h
  exact ⟨F1, h1.below hb, h2, h3.trans (Chg.ofBelow (S := fun _ => False) hb) (fun _ _ x => x.elim), h4.chg (Chg.ofBelow (S := fun _ => False) hb) (fun _ _ x => x), h5⟩
theorem RcV.more {w u u2 u3 : World} {B r : Nat} {W D L : List (En Int)} {F : Nat → Prop} {vw vl vd v' : Value} (h : RcV w u B r W D L F vw vl vd) (hb : Below u.heap.size u u2) (e : En Int) (hg : u2.grownBy u3 vl.ownBlock) (hr : u3.ownsRow w.heap.size 46 3 v' (L.length + 1) (flat eR L ++ [.int .i64 e.own, .int .i64 e.act, .int .i64 e.ver])) (z : Nat) (hz : u.heap.size ≤ z) (hat : v'.ownBlock = vl.ownBlock ∨ v'.ownBlock = some z) : RcV w u3 B r W D (L ++ [e]) F vw v' vd := by
  have h' := h
  obtain ⟨F1, h1, h2, h3, h4, h5⟩ := h.below hb
  obtain ⟨F1', h1', h2', h3', h4', h5'⟩ := h'
  have hc := Chg.ofGrown hg
  obtain ⟨F1, h1o, h2, h3o, h4o, h5⟩ := h
  have h1 := h1o.below hb
  have h3 := h3o.trans (Chg.ofBelow (S := fun _ => False) hb) (fun _ _ x => x.elim)
  have h4 := h4o.chg (Chg.ofBelow (S := fun _ => False) hb) (fun _ _ x => x)
  refine ⟨F1, h1.chg hc (fun i hi e' => h5 i e' hi), h2, h3.trans hc (fun i hi e' => ?_), ?_, fun b hbb hf => ?_⟩
  · have := (h4.lt i e').2; omega
  · unfold IsRow
    rw [List.length_append, List.length_singleton, flat_app]
    exact hr
  · rcases hat with hat | hat
    · exact h5 b (hat ▸ hbb) hf
    · rw [hat] at hbb; injection hbb with hbb; have := (h1o.fB b hf).2; omega
/-- a row in place of what was due -/
theorem RcV.push {w u w4 : World} {B r : Nat} {W D D' L : List (En Int)} {F : Nat → Prop} {vw vl vd v' : Value} (h : RcV w u B r W D L F vw vl vd) (hg : Chg (fun k => vd.ownBlock = some k) u w4) (hr : IsRow eR 46 w4 B v' D') (hb : v'.ownBlock = vd.ownBlock ∨ ∀ k, v'.ownBlock = some k → u.heap.size ≤ k) : RcV w (w4.setCell ⟨r, 1, none⟩ v') B r W D' L F vw vl v' := by
  obtain ⟨F1, h1, h2, h3, h4, h5⟩ := h
  have hq := h1.fB r h1.fq
  have hqd : vd.ownBlock ≠ some r := fun e => (h1.fd r e).2 rfl
  have hsq : Chg (fun k => k = r) w4 (w4.setCell ⟨r, 1, none⟩ v') := (Chg.refl (fun k => k = r) w4).setCell r 1 v' (fun _ => rfl)
  have hq4 : v'.ownBlock ≠ some r := fun e => by
    rcases hb with hb | hb
    · exact hqd (hb ▸ e)
    · have := hb r e; omega
  have hwr := (h1.rw.chg hg (fun b e e' => h1.ne b e e')).chg hsq (fun b e e' => (h1.fw b e).2 e')
  have hall : Chg F1 u (w4.setCell ⟨r, 1, none⟩ v') := (hg.mono (fun i _ e => (h1.fd i e).1)).trans hsq (fun i _ e => by rw [e]; exact h1.fq)
  refine ⟨fun i => F1 i ∨ v'.ownBlock = some i, ⟨.inl h1.fq, fun k hk => ?_, ?_, hwr, hr.chg hsq (fun b e e' => hq4 (e' ▸ e)), fun k e => ⟨.inl (h1.fw k e).1, (h1.fw k e).2⟩, fun k e => ⟨.inr e, fun e' => hq4 (e' ▸ e)⟩, fun k e e' => ?_⟩, fun i hi => ?_, ?_, h4.chg hall (fun b hbb hf => h5 b hbb hf), fun b hbb hf => ?_⟩
  · rcases hk with hk | hk
    · exact ⟨(h1.fB k hk).1, by have := (h1.fB k hk).2; have := hall.size; omega⟩
    · exact ⟨(hr.lt k hk).2, by have := (hr.lt k hk).1; simpa [World.setCell] using this⟩
  · have := (h1.box.chg hg (fun e => hqd e)).store 1 v'
    simpa using this
  · rcases hb with hb | hb
    · exact h1.ne k e (hb ▸ e')
    · have := hb k e'; have := (h1.rw.lt k e).1; omega
  · rcases hi with hi | hi
    · exact h2 i hi
    · rcases hb with hb | hb
      · exact h2 i (h1.fd i (hb ▸ hi)).1
      · have := hb i hi; have := h3.size; exact .inr (by omega)
  · refine h3.trans hall (fun i hi e => ?_)
    rcases h2 i e with h | h
    · exact h
    · omega
  · rcases hf with hf | hf
    · exact h5 b hbb hf
    · rcases hb with hb | hb
      · exact h5 b hbb (h1.fd b (hb ▸ hf)).1
      · have := hb b hf; have := (h4.lt b hbb).1; omega
/-- what is due, in another order -/
theorem RcV.due {w u u' : World} {B r g cap : Nat} {W D D' L : List (En Int)} {F : Nat → Prop} {vw vl : Value} (h : RcV w u B r W D L F vw vl (.slice (some ⟨g, 0, none⟩) D.length cap)) (hs : Srt eR 46 u u' g cap D') (hl : D'.length = D.length) : RcV w u' B r W D' L F vw vl (.slice (some ⟨g, 0, none⟩) D.length cap) := by
  obtain ⟨F1, h1, h2, h3, h4, h5⟩ := h
  have hfg := h1.fd g rfl
  refine ⟨F1, ⟨h1.fq, fun i hi => ⟨(h1.fB i hi).1, Nat.lt_of_lt_of_le (h1.fB i hi).2 hs.chg.size⟩, h1.box.chg hs.chg (fun e => hfg.2 e.symm), h1.rw.chg hs.chg (fun b e e' => h1.ne b e (by rw [e']; rfl)), ?_, h1.fw, h1.fd, h1.ne⟩, h2, h3.trans hs.chg (fun i hi e => ?_), h4.chg hs.chg (fun b hb e => h5 b hb (e ▸ hfg.1)), h5⟩
  · have := hs.lay.row (B := B) (h1.fB g hfg.1).1
    rw [hl] at this
    exact this
  · rcases h2 i (e ▸ hfg.1) with h | h
    · exact h
    · omega
/-- the end of a Commit -/
theorem RcV.done {w u : World} {B r : Nat} {W D L : List (En Int)} {F : Nat → Prop} {vw vl vd : Value} (h : RcV w u B r W D L F vw vl vd) (hB : B ≤ w.heap.size) (hri : Rise En.ver D) (hrm : L.length + D.length ≤ 1024) : ToR w B r ⟨L, D⟩ F (u.setCell ⟨r, 0, none⟩ vl) := by
  obtain ⟨F1, h1, h2, h3, h4, h5⟩ := h
  have hc : Chg (fun k => k = r) u (u.setCell ⟨r, 0, none⟩ vl) := (Chg.refl _ u).setCell r 0 vl (fun _ => rfl)
  have hvr : ∀ k, vl.ownBlock = some k → k ≠ r := fun k e e' => h5 k e (e' ▸ h1.fq)
  refine ⟨⟨fun i => F1 i ∨ vl.ownBlock = some i, fun i hi => ?_, vl, vd, ⟨.inl h1.fq, fun k hk => ?_, ?_, (base_of' h4 hB).chg hc (fun b e e' => hvr b e e'), h1.rd.chg hc (fun b e e' => (h1.fd b e).2 e'), fun k e => ⟨.inr e, hvr k e⟩, fun k e => ⟨.inl (h1.fd k e).1, (h1.fd k e).2⟩, fun k e e' => h5 k e (h1.fd k e').1, hrm⟩, hri⟩, h3.trans hc (fun i hi e => ?_)⟩
  · rcases hi with hi | hi
    · exact h2 i hi
    · exact .inr (h4.lt i hi).2
  · have hs := hc.size
    rcases hk with hk | hk
    · have := h1.fB k hk; omega
    · have := h4.lt k hk; omega
  · have := h1.box.store 0 vl
    simpa using this
  · rcases h2 r h1.fq with h | h
    · rw [e]; exact h
    · omega
theorem wpAnyE_mono {P : Program} {ops : Array Oper} {Q : Exit → Act → World → Prop} {md : Region.Mode} {late : List Nat} {C C' : Act → World → Prop} (hC : ∀ a w, C' a w → C a w) : ∀ (fuel : Nat) (listed : Array Bool) (a : Act) (w : World), wpAnyE P md ops Q C' late fuel listed a w → wpAnyE P md ops Q C late fuel listed a w
  | 0, _, _, _, h => h
  | fuel + 1, _, _, _, h => ⟨h.1, fun i hi => wpOp_mono (fun a' w' h' => ⟨h'.1.imp id (fun h => h.imp id (hC _ _)), wpAnyE_mono hC fuel _ a' w' h'.2⟩) (h.2 i hi)⟩
set_option maxRecDepth 100000 in
set_option maxHeartbeats 16000000 in
theorem rcommit_at {w : World} {B r : Nat} {S : QS Int} {F : Nat → Prop} (h0 : HasR w B r S F) (o v : Int) :
    Calls Try.prog 14 #[ptr r, .int .i64 o, .int .i64 v] w fun e w' => e = .returned (.tuple #[.int .i64 (S.commit o v).1, .int .i64 (S.commit o v).2.1]) ∧ ToR w B r (S.commit o v).2.2 F w' := by
  by_cases hbad : o < 1 ∨ v < 0
  · have e : S.commit o v = (0, 2, S) := by unfold QS.commit; rw [if_pos hbad]
    rw [e]
    have HF := hid (ToR.same h0 (Below.refl _ _))
    clear h0 e
    unfold ptr at *
    by_cases ho : o < 1
    · clear hbad
      go_enter Try.func14, Try.ntmps14
      go_wp2_with fail
      go_ret2
      exact ⟨rfl, HF.out⟩
    · have hv : v < 0 := by omega
      clear hbad
      go_enter Try.func14, Try.ntmps14
      go_wp2_with fail
      go_ret2
      exact ⟨rfl, HF.out⟩
  have ho : ¬ o < 1 := fun h => hbad (.inl h)
  have hv : ¬ v < 0 := fun h => hbad (.inr h)
  have e : S.commit o v = (((S.mine o).length : Int), 0, ⟨S.wait.filter (fun e => !decide (e.own = o)), mrg En.ver S.due ((S.mine o).map fun e => { e with ver := v })⟩) := by unfold QS.commit; rw [if_neg hbad]
  rw [e]
  clear e hbad
  obtain ⟨vw, vd, h, hri⟩ := h0
  obtain ⟨nw, hnw⟩ : ∃ nw, nw = S.wait.length := ⟨_, rfl⟩
  obtain ⟨aw, cw, hvw⟩ := ownsRow_slice h.rw
  rw [← hnw] at hvw
  have hrm := h.rm
  have hnl : nw ≤ 1024 := by omega
  have HRM : Hid (nw + S.due.length ≤ 1024) := by unfold Hid; omega
  have HB : Hid (B ≤ w.heap.size) := by have := h.fB r h.fq; unfold Hid; omega
  have hn0 : IsRn w B r S.wait S.due F vw vd := ⟨h.fq, h.fB, h.box, h.rw, h.rd, h.fw, h.fd, h.ne⟩
  have HN := hid (And.intro hnw hvw)
  have HRI := hid hri
  obtain ⟨i0, hi0, hz0, hz1, hz2⟩ := info_parts infoR
  obtain ⟨up, hup⟩ : ∃ up : En Int → En Int, up = fun e => { e with ver := v } := ⟨_, rfl⟩
  have hupv : ∀ e, (up e).ver = v := fun e => by rw [hup]
  have hst : ∀ l : List (En Int), Rise En.ver (l.map up) := fun l => List.pairwise_map.2 (List.pairwise_of_forall (fun a b => by show (up a).ver ≤ (up b).ver; rw [hupv, hupv]; exact Int.le_refl _))
  obtain ⟨DK, hDK⟩ : ∃ DK : Nat → List (En Int), DK = fun k => mrg En.ver S.due (((S.wait.take k).filter fun e => decide (e.own = o)).map up) := ⟨_, rfl⟩
  obtain ⟨LK, hLK⟩ : ∃ LK : Nat → List (En Int), LK = fun k => (S.wait.take k).filter fun e => !decide (e.own = o) := ⟨_, rfl⟩
  obtain ⟨NK, hNK⟩ : ∃ NK : Nat → Nat, NK = fun k => ((S.wait.take k).filter fun e => decide (e.own = o)).length := ⟨_, rfl⟩
  have H0 : Hid (RcV w w B r S.wait (DK 0) (LK 0) F vw (.slice none 0 0) vd ∧ NK 0 = 0) := by
    refine ⟨?_, by rw [hNK]; rfl⟩
    rw [hDK, hLK]
    simp only [List.take_zero, List.filter_nil, List.map_nil, mrg_nil]
    exact ⟨F, hn0, fun i hi => .inl hi, Chg.refl _ _, IsRow.nil _ _ _ _, fun b e => by cases e⟩
  have HNK : Hid (∀ k, NK k ≤ nw ∧ (LK k).length ≤ nw ∧ (DK k).length ≤ 1024) := fun k => by
    have e1 := List.length_filter_le (fun e : En Int => decide (e.own = o)) (S.wait.take k)
    have e2 := List.length_filter_le (fun e : En Int => !decide (e.own = o)) (S.wait.take k)
    have e3 := List.length_take_le' k S.wait
    rw [hDK, hLK, hNK]
    simp only [mrg_len, List.length_map]
    omega
  have HNO : Hid (∀ k x, S.wait[k]? = some x → x.own ≠ o → DK (k + 1) = DK k ∧ LK (k + 1) = LK k ++ [x] ∧ NK (k + 1) = NK k) := fun k x hx ho => by
    have htk : S.wait.take (k + 1) = S.wait.take k ++ [x] := by rw [List.take_add_one, hx]; rfl
    rw [hDK, hLK, hNK]
    simp only [htk, List.filter_append]
    simp [ho]
  have HYES : Hid (∀ k x, S.wait[k]? = some x → x.own = o → DK (k + 1) = mrg En.ver (DK k) [up x] ∧ LK (k + 1) = LK k ∧ NK (k + 1) = NK k + 1) := fun k x hx ho => by
    have htk : S.wait.take (k + 1) = S.wait.take k ++ [x] := by rw [List.take_add_one, hx]; rfl
    have e1 : (S.wait.take (k + 1)).filter (fun e => decide (e.own = o)) = (S.wait.take k).filter (fun e => decide (e.own = o)) ++ [x] := by rw [htk, List.filter_append]; simp [ho]
    refine ⟨?_, ?_, ?_⟩
    · rw [hDK]
      show mrg En.ver S.due (((S.wait.take (k + 1)).filter _).map up) = _
      rw [e1, List.map_append]
      exact (mrg_more _ _ _ HRI.out (by have := hst ((S.wait.take k).filter (fun e => decide (e.own = o)) ++ [x]); rwa [List.map_append] at this)).symm
    · rw [hLK]
      simp only [htk, List.filter_append]
      simp [ho]
    · rw [hNK]
      show ((S.wait.take (k + 1)).filter _).length = _
      rw [e1, List.length_append]; rfl
  have HRD : Hid (∀ k, Rise En.ver (DK k)) := fun k => by rw [hDK]; exact rise_mrg _ _ _ HRI.out (hst _)
  have HEND : Hid (∀ u vl vd, RcV w u B r S.wait (DK nw) (LK nw) F vw vl vd → NK nw = (S.mine o).length ∧ ToR w B r ⟨S.wait.filter (fun e => !decide (e.own = o)), mrg En.ver S.due ((S.mine o).map up)⟩ F (u.setCell ⟨r, 0, none⟩ vl)) := fun u vl vd hv => by
    have ht : S.wait.take nw = S.wait := by rw [HN.out.1]; exact List.take_length
    have h1 : DK nw = mrg En.ver S.due ((S.mine o).map up) := by rw [hDK]; show mrg En.ver S.due (((S.wait.take nw).filter _).map up) = _; rw [ht]; rfl
    have h2 : LK nw = S.wait.filter (fun e => !decide (e.own = o)) := by rw [hLK]; show (S.wait.take nw).filter _ = _; rw [ht]
    have h3 : NK nw = (S.mine o).length := by rw [hNK]; show ((S.wait.take nw).filter _).length = _; rw [ht]; rfl
    refine ⟨h3, ?_⟩
    rw [← h1, ← h2]
    refine hv.done HB.out (HRD.out _) ?_
    have e3 : (S.wait.filter (fun e => decide (e.own = o))).length + (S.wait.filter (fun e => !decide (e.own = o))).length = S.wait.length := by
      have := sel_two (fun k => match S.wait[k]? with | some e => decide (e.own = o) | none => false) S.wait
      rw [sel_filter (fun e : En Int => decide (e.own = o)) _ _ (fun k hk => by simp [hk]), sel_filter (fun e : En Int => !decide (e.own = o)) _ _ (fun k hk => by simp [hk])] at this
      exact this
    rw [h2, h1, mrg_len, List.length_map]
    have := HRM.out
    have := HN.out.1
    show (S.wait.filter _).length + (S.due.length + (S.wait.filter _).length) ≤ 1024
    omega
  have HUP : Hid (∀ xv xo xa, up ⟨xv, xo, xa⟩ = ⟨v, xo, xa⟩) := fun xv xo xa => by rw [hup]
  rw [← hup]
  generalize hsz : ((S.mine o).length : Int) = RES
  have HSZ := hid hsz
  generalize HT : (⟨S.wait.filter (fun e => !decide (e.own = o)), mrg En.ver S.due ((S.mine o).map up)⟩ : QS Int) = ST at *
  clear h hnw hvw hri hrm hn0 hup hst hupv hDK hLK hNK hsz HT
  unfold ptr at *
  go_enter Try.func14, Try.ntmps14
  go_wp2_with fail
  go_loopw [8, 9, 10] (fun xl n i u => ∃ (k : Nat) (vl : Value), vl = xl ∧ k ≤ nw ∧ i = .int .i64 (k : Int) ∧ n = .int .i64 (NK k : Int) ∧ Hid (∃ vd, RcV w u B r S.wait (DK k) (LK k) F vw vl vd)) (fun _ _ i _ => nw - (intOf i).toNat)
  case atStart => exact ⟨0, _, rfl, Nat.zero_le _, by simp, by rw [H0.out.2]; simp, vd, H0.out.1⟩
  case round =>
    clear H0
    obtain ⟨k, vl, hvl, hk, rfl, rfl, hrel⟩ := hrel
    subst hvl
    obtain ⟨vd1, hv1⟩ := hrel.out
    have c0x : wr.cell? ⟨r, 0, none⟩ = some (.slice aw nw cw) := by
      obtain ⟨F1, h1, _⟩ := hv1
      rw [← HN.out.2]; exact h1.box.cell 0
    by_cases hlt : k < nw
    · have hkD : k < S.wait.length := by rw [← HN.out.1]; exact hlt
      have hki : (k : Int) < (nw : Int) := by omega
      have hx := List.getElem?_eq_getElem hkD
      obtain ⟨xe, hxe⟩ : ∃ xe, xe = S.wait[k]'hkD := ⟨_, rfl⟩
      rw [← hxe] at hx
      obtain ⟨xv, xo, xa⟩ := xe
      have hrw : IsRow eR 46 wr B vw S.wait := by
        obtain ⟨F1, h1, _⟩ := hv1
        exact h1.rw
      rcases hrw.lay with ⟨hv0, _⟩ | ⟨b1, cap1, hvv, _, l1⟩
      · rw [HN.out.2] at hv0; injection hv0 with _ hz; omega
      rw [HN.out.2, ← HN.out.1] at hvv
      injection hvv with e1 _ e2
      subst e1 e2
      obtain ⟨x0, x1, x2⟩ := l1.get hx
      simp only [eR] at x0 x1 x2
      have hnk := HNK.out k
      have HX := hid hx
      obtain ⟨nn, hnn⟩ : ∃ nn, nn = NK k := ⟨_, rfl⟩
      rw [← hnn]
      have hnn2 : nn ≤ 1024 := by have := hnk.1; omega
      have HNN := hid hnn
      clear hx hxe hrw l1 hrel hnn hkD
      by_cases hoo : xo = o
      · have hyes := HYES.out k _ HX.out hoo
        subst hoo
        have HHY := hid hyes
        clear hyes
        obtain ⟨ad, nd, cd, hvd1, hnd⟩ : ∃ ad nd cd, vd1 = .slice ad nd cd ∧ nd = (DK k).length := by
          obtain ⟨F1, h1, _⟩ := hv1
          obtain ⟨a, c, hh⟩ := ownsRow_slice h1.rd
          exact ⟨a, _, c, hh, rfl⟩
        have hndn : nd ≤ 1024 := by have := hnk.2.2; omega
        subst hvd1
        obtain ⟨wy, hwy⟩ : ∃ wy, wy = wr.alloc (.cells #[.int .i64 xo, .int .i64 xa, .int .i64 v] 46) := ⟨_, rfl⟩
        obtain ⟨eb, heb⟩ : ∃ eb, eb = wr.heap.size := ⟨_, rfl⟩
        have hby : Below wr.heap.size wr wy := hwy ▸ (Below.refl wr.heap.size wr).alloc (Nat.le_refl _) (.cells #[.int .i64 xo, .int .i64 xa, .int .i64 v] 46)
        have hbE : Box wy eb #[.int .i64 xo, .int .i64 xa, .int .i64 v] 46 := by rw [hwy, heb]; exact Box.new wr _ 46
        have hvy := hv1.below hby
        have HY := hid (And.intro hvy hbE)
        have HYE := hid (And.intro hwy heb)
        have HND := hid hnd
        have hQb : Hid (∀ F1, IsRn wr B r S.wait (DK k) F1 vw (.slice ad nd cd) → True) := fun _ _ => trivial
        have hdlt : Hid (∀ i, (Value.slice ad nd cd).ownBlock = some i → i < wr.heap.size) := fun i hi => by
          obtain ⟨F1, h1, _⟩ := hv1
          exact (h1.rd.lt i hi).1
        clear hvy hbE hwy heb hnd hv1 hby hnk hQb
        go_wp2_with fail
        rw [← HYE.out.1, ← HYE.out.2]
        have HCA : Hid (∀ u, Below wy.heap.size wy u → ∀ z ∈ [((⟨r, 1, none⟩ : Addr), (.slice ad nd cd : Value)), (⟨eb, 0, none⟩, .int .i64 xo), (⟨eb, 1, none⟩, .int .i64 xa), (⟨eb, 2, none⟩, .int .i64 v)], u.cell? z.1 = some z.2) := fun u hb z hz => by
          obtain ⟨⟨F1, y1, _⟩, y2⟩ := HY.out
          have b1 := y1.box.below hb y1.box.lt
          have b2 := y2.below hb y2.lt
          simp at hz
          rcases hz with rfl | rfl | rfl | rfl
          · exact b1.cell 1
          · exact b2.cell 0
          · exact b2.cell 1
          · exact b2.cell 2
        have HCS : Hid (∀ z ∈ [((⟨r, 1, none⟩ : Addr), (.slice ad nd cd : Value)), (⟨eb, 0, none⟩, .int .i64 xo), (⟨eb, 1, none⟩, .int .i64 xa), (⟨eb, 2, none⟩, .int .i64 v)], wy.drew.cell? z.1 = some z.2) := HCA.out _ ⟨rfl, rfl, rfl, Nat.le_refl _, fun _ _ => rfl⟩
        have hb6 : Below wy.heap.size wy ((wy.alloc (.cells #[.int .i64 xo, .int .i64 xa, .int .i64 v] 46)).drew) := ((Below.refl wy.heap.size wy).alloc (Nat.le_refl _) (.cells #[.int .i64 xo, .int .i64 xa, .int .i64 v] 46)).drew
        have HC6 : Hid (∀ z ∈ [((⟨r, 1, none⟩ : Addr), (.slice ad nd cd : Value)), (⟨eb, 0, none⟩, .int .i64 xo), (⟨eb, 1, none⟩, .int .i64 xa), (⟨eb, 2, none⟩, .int .i64 v)], ((wy.alloc (.cells #[.int .i64 xo, .int .i64 xa, .int .i64 v] 46)).drew).cell? z.1 = some z.2) := HCA.out _ hb6
        have hv6 := HY.out.1.below hb6
        have HR7 : Hid (((wy.alloc (.cells #[.int .i64 xo, .int .i64 xa, .int .i64 v] 46)).drew).ownsRow B 46 3 (.slice ad nd cd) nd (flat eR (DK k)) ∧ ((wy.alloc (.cells #[.int .i64 xo, .int .i64 xa, .int .i64 v] 46)).drew).heap[wy.heap.size]? = some (.cells #[.int .i64 xo, .int .i64 xa, .int .i64 v] 46 (0, 0)) ∧ B ≤ ((wy.alloc (.cells #[.int .i64 xo, .int .i64 xa, .int .i64 v] 46)).drew).heap.size) := by
          obtain ⟨F1, h1, h2, h3, _⟩ := hv6
          have hr := h1.rd
          unfold IsRow at hr
          rw [← HND.out] at hr
          exact ⟨hr, Box.new wy #[.int .i64 xo, .int .i64 xa, .int .i64 v] 46, by have := HB.out; have := h3.size; omega⟩
        have HPUT : Hid (∀ gg gc w4, w4.ownsRow B 46 3 (.slice (some ⟨gg, 0, none⟩) (nd + 1) gc) (nd + 1) (flat eR (DK k) ++ [.int .i64 xo, .int .i64 xa, .int .i64 v]) → ((wy.alloc (.cells #[.int .i64 xo, .int .i64 xa, .int .i64 v] 46)).drew).grownBy w4 (Value.slice ad nd cd).ownBlock → ((Value.slice ad nd cd).ownBlock = some gg ∨ gg = ((wy.alloc (.cells #[.int .i64 xo, .int .i64 xa, .int .i64 v] 46)).drew).heap.size) →
            Hid (∀ z ∈ [((⟨r, 1, none⟩ : Addr), (.slice ad nd cd : Value)), (⟨eb, 0, none⟩, .int .i64 xo), (⟨eb, 1, none⟩, .int .i64 xa), (⟨eb, 2, none⟩, .int .i64 v)], w4.cell? z.1 = some z.2) ∧ Hid (w4.frozen? ⟨r, 1, none⟩ = false ∧ RcV w (w4.setCell ⟨r, 1, none⟩ (.slice (some ⟨gg, 0, none⟩) (nd + 1) gc)) B r S.wait (DK k ++ [⟨v, xo, xa⟩]) (LK k) F vw vl (.slice (some ⟨gg, 0, none⟩) (nd + 1) gc))) := fun gg gc w4 hown4 hgrow hat => by
          have hgc := Chg.ofGrown hgrow
          obtain ⟨F1, h1, _⟩ := id hv6
          have hnq : (Value.slice ad nd cd).ownBlock ≠ some r := fun e => (h1.fd r e).2 rfl
          have hbq := h1.box.chg hgc hnq
          have hbe := (HY.out.2.below hb6 HY.out.2.lt).chg hgc (fun e => by
            have := hdlt.out eb e
            have := HYE.out.2
            omega)
          have hr4 : IsRow eR 46 w4 B (.slice (some ⟨gg, 0, none⟩) (nd + 1) gc) (DK k ++ [⟨v, xo, xa⟩]) := by
            unfold IsRow
            rw [List.length_append, ← HND.out, List.length_singleton, flat_app]
            exact hown4
          have hput := hv6.push hgc hr4 (by
            rcases hat with hat | hat
            · exact .inl (hat.symm ▸ rfl)
            · exact .inr (fun i hi => by
              have hi : gg = i := by simpa [Value.ownBlock] using hi
              omega))
          refine ⟨fun z hz => ?_, hbq.frozen 1, hput⟩
          simp at hz
          rcases hz with rfl | rfl | rfl | rfl
          · exact hbq.cell 1
          · exact hbe.cell 0
          · exact hbe.cell 1
          · exact hbe.cell 2
        clear hb6 hv6
        refine wp_region_any (by kernel_rfl) ?_
        refine wpAny_take (i := 0) (v := ?_) rfl (by kernel_rfl) (by kernel_rfl) (by kernel_rfl) (fun _ _ _ h => h) (Or.inl ⟨by rfl, ?_⟩) ?_
        rotate_left
        · intro u
          go_simp
          with_reducible rfl
        simp only [Act.put, List.setIfInBounds_toArray, List.set_cons_zero, List.set_cons_succ, List.getElem_toArray, List.getElem_cons_zero]
        refine wpAny_take (i := 1) (v := ?_) rfl (by kernel_rfl) (by kernel_rfl) (by kernel_rfl) (fun _ _ _ h => h) (Or.inl ⟨by rfl, ?_⟩) ?_
        rotate_left
        · intro u
          go_simp
          with_reducible rfl
        simp only [Act.put, List.setIfInBounds_toArray, List.set_cons_zero, List.set_cons_succ, List.getElem_toArray, List.getElem_cons_zero, List.getElem_cons_succ]
        refine wpAny_take (i := 2) (v := ?_) rfl (by kernel_rfl) (by kernel_rfl) (by kernel_rfl) (fun _ _ _ h => h) (Or.inl ⟨by rfl, ?_⟩) ?_
        rotate_left
        · intro u
          go_simp
          with_reducible rfl
        simp only [Act.put, List.setIfInBounds_toArray, List.set_cons_zero, List.set_cons_succ, List.getElem_toArray, List.getElem_cons_zero, List.getElem_cons_succ]
        refine wpAny_take (i := 3) (v := ?_) rfl (by kernel_rfl) (by kernel_rfl) (by kernel_rfl) (fun _ _ _ h => h) (Or.inl ⟨by rfl, ?_⟩) ?_
        rotate_left
        · intro u
          go_simp
          with_reducible rfl
        simp only [Act.put, List.setIfInBounds_toArray, List.set_cons_zero, List.set_cons_succ, List.getElem_toArray, List.getElem_cons_zero, List.getElem_cons_succ]
        refine wpAny_of_E (C := SlotsCells [(50, .pointer (some ⟨r, 1, none⟩)), (11, .pointer (some ⟨eb, 0, none⟩))] [(⟨r, 1, none⟩, .slice ad nd cd), (⟨eb, 0, none⟩, .int .i64 xo), (⟨eb, 1, none⟩, .int .i64 xa), (⟨eb, 2, none⟩, .int .i64 v)]) (late := [10]) _ _ _ _ ?_
        refine wpAnyE_take (i := 4) (v := .slice ad nd cd) rfl (by kernel_rfl) (by kernel_rfl) (by kernel_rfl) (by kernel_rfl) (by kernel_rfl) (by kernel_rfl) (fun _ _ _ h => h) ?_ (fun fr u h => (SlotsCells.put 51 _ (by rfl)).1 h) (fun fr u h => (SlotsCells.put 51 _ (by rfl)).2 h) ?_ ?_
        · intro fr u hh
          have e1 := hh.val (s := 50) (v := .pointer (some ⟨r, 1, none⟩)) (by simp)
          have d0 := hh.2 (⟨r, 1, none⟩, .slice ad nd cd) (by simp)
          exact ⟨rfl, by simp [execOp, e1, go_sem, d0]⟩
        · exact ⟨fun q hq => by simp at hq; rcases hq with rfl | rfl <;> rfl, HCS.out⟩
        simp only [Act.put, List.setIfInBounds_toArray, List.set_cons_zero, List.set_cons_succ, List.getElem_toArray, List.getElem_cons_zero, List.getElem_cons_succ]
        refine wpAnyE_take (i := 5) (v := .agg #[.int .i64 xo, .int .i64 xa, .int .i64 v]) rfl (by kernel_rfl) (by kernel_rfl) (by kernel_rfl) (by kernel_rfl) (by kernel_rfl) (by kernel_rfl) (fun _ _ _ h => h) ?_ (fun fr u h => (SlotsCells.put 52 _ (by rfl)).1 h) (fun fr u h => (SlotsCells.put 52 _ (by rfl)).2 h) ?_ ?_
        · intro fr u hh
          have e1 := hh.val (s := 11) (v := .pointer (some ⟨eb, 0, none⟩)) (by simp)
          have d0 := hh.2 (⟨eb, 0, none⟩, .int .i64 xo) (by simp)
          have d1 := hh.2 (⟨eb, 1, none⟩, .int .i64 xa) (by simp)
          have d2 := hh.2 (⟨eb, 2, none⟩, .int .i64 v) (by simp)
          exact ⟨rfl, by simp [execOp, e1, go_sem, d0, d1, d2]⟩
        · exact ⟨fun q hq => by simp at hq; rcases hq with rfl | rfl <;> rfl, HCS.out⟩
        simp only [Act.put, List.setIfInBounds_toArray, List.set_cons_zero, List.set_cons_succ, List.getElem_toArray, List.getElem_cons_zero, List.getElem_cons_succ]
        refine wpAnyE_some (rs := [6]) (by kernel_rfl) (by simp) (fun i hi => ?_)
        simp only [List.mem_cons, List.not_mem_nil, or_false] at hi
        subst hi
        refine wpOp_step rfl (fun Kc hKc => ?_)
        go_simp
        refine hKc _ _ ⟨.inr (.inr ⟨fun q hq => by simp at hq; rcases hq with rfl | rfl <;> rfl, HC6.out⟩), ?_⟩
        clear hKc Kc
        refine wpAnyE_some (rs := [7]) (by kernel_rfl) (by simp) (fun i hi => ?_)
        simp only [List.mem_cons, List.not_mem_nil, or_false] at hi
        subst hi
        refine wpOp_step rfl (fun Kc hKc => ?_)
        rw [if_pos (by rfl)]
        refine wp_append_lies _ _ _ 37 rfl B 46 i0 (.agg #[.int .i64 0, .int .i64 0, .int .i64 0]) 3 24 Try.underlying37 hi0 hz0 hz1 hz2 rfl (by decide) (.slice ad nd cd) nd _ rfl HR7.out.1 ⟨wy.heap.size, 0, none⟩ 1 1 [.int .i64 xo, .int .i64 xa, .int .i64 v] rfl rfl (World.news_of_block HR7.out.2.1) ?c2 (by decide) ?c3 ?c4 HR7.out.2.2 _ rfl ?_
        case c2 => intro u hu; simp at hu; rcases hu with rfl | rfl | rfl <;> rfl
        case c3 => unfold maxLen; omega
        case c4 => omega
        intro gg gc w4 hown4 hgrow hat hlt4
        obtain ⟨HP1, HP2⟩ := HPUT.out gg gc w4 hown4 hgrow hat
        refine hKc _ _ ⟨.inr (.inr ⟨fun q hq => by simp at hq; rcases hq with rfl | rfl <;> rfl, HP1.out⟩), ?_⟩
        clear hKc Kc
        have d1 := HP1.out (⟨r, 1, none⟩, .slice ad nd cd) (by simp)
        have d2 := HP2.out.1
        clear hown4 hgrow hat hlt4
        refine wpAnyE_some (rs := [8]) (by kernel_rfl) (by simp) (fun i hi => ?_)
        simp only [List.mem_cons, List.not_mem_nil, or_false] at hi
        subst hi
        refine wpOp_step rfl (fun Kc hKc => ?_)
        go_simp
        refine hKc _ _ ⟨.inr (.inr ⟨fun q hq => by simp at hq; rcases hq with rfl | rfl <;> rfl, HP1.out⟩), ?_⟩
        clear hKc Kc
        refine wpAnyE_some (rs := [9]) (by kernel_rfl) (by simp) (fun i hi => ?_)
        simp only [List.mem_cons, List.not_mem_nil, or_false] at hi
        subst hi
        refine wpOp_step rfl (fun Kc hKc => ?_)
        go_simp
        refine hKc _ _ ⟨.inr (.inr ⟨fun q hq => by simp at hq; rcases hq with rfl | rfl <;> rfl, HP1.out⟩), ?_⟩
        clear hKc Kc
        refine wpAnyE_some (rs := [10]) (by kernel_rfl) (by simp) (fun i hi => ?_)
        simp only [List.mem_cons, List.not_mem_nil, or_false] at hi
        subst hi
        refine wpOp_step rfl (fun Kc hKc => ?_)
        go_simp
        refine hKc _ _ ⟨.inr (.inl rfl), ?_⟩
        clear hKc Kc
        refine wpAnyE_done (by kernel_rfl) ?_ _
        have hv5 := HP2.out.2
        obtain ⟨w5, hw5⟩ : ∃ w5, w5 = w4.setCell ⟨r, 1, none⟩ (.slice (some ⟨gg, 0, none⟩) (nd + 1) gc) := ⟨_, rfl⟩
        rw [← hw5] at hv5 ⊢
        have HV5 := hid hv5
        have d5 : w5.cell? ⟨r, 1, none⟩ = some (.slice (some ⟨gg, 0, none⟩) (nd + 1) gc) := by
          obtain ⟨F1, h1, _⟩ := hv5
          exact h1.box.cell 1
        have HS5 : Hid (Srt eR 46 w5 w5 gg gc (sunk (DK k) ⟨v, xo, xa⟩ nd) ∧ gg ≠ r) := by
          obtain ⟨F1, h1, _⟩ := hv5
          rcases h1.rd.lay with ⟨h, _⟩ | ⟨g, cap, h, _, hl⟩
          · injection h with h; cases h
          · injection h with h4 h5 h6
            injection h4 with h4
            injection h4 with h4
            subst h4 h6
            refine ⟨⟨?_, Chg.refl _ _⟩, (h1.fd gg rfl).2⟩
            rw [HND.out, sunk_start]
            exact hl
        clear hv5 hw5 HPUT HCA HC6 HCS HR7 HP1 HP2 d1 d2 HY
        have HEND2 : Hid (∀ u j, j ≤ nd → Srt eR 46 w5 u gg gc (sunk (DK k) ⟨v, xo, xa⟩ j) → (∀ i y, j ≤ i → (DK k)[i]? = some y → v < y.ver) → (j = 0 ∨ ∃ y, (DK k)[j - 1]? = some y ∧ y.ver ≤ v) → RcV w u B r S.wait (DK (k + 1)) (LK (k + 1)) F vw vl (.slice (some ⟨gg, 0, none⟩) (nd + 1) gc)) := fun u j hj hS hgt hlo => by
          have hl : (DK k ++ [(⟨v, xo, xa⟩ : En Int)]).length = nd + 1 := by rw [List.length_append, ← HND.out]; rfl
          have h5 := HV5.out
          rw [← hl] at h5
          have h6 := h5.due hS (by rw [sunk_len _ _ _ (by rw [← HND.out]; exact hj), List.length_append]; rfl)
          rw [hl] at h6
          have e1 := HHY.out.1
          rw [HUP.out] at e1
          rw [e1, HHY.out.2.1, sunk_end (DK k) ⟨v, xo, xa⟩ j (by rw [← HND.out]; exact hj) (HRD.out k) hlo hgt]
          exact h6
        clear x0 x1 x2 c0x
        obtain ⟨wz, hwz⟩ : ∃ wz, wz = wr := ⟨_, rfl⟩
        subst hwz
        go_wp2_with fail
        go_loopw [12] (fun t u => ∃ j : Nat, j ≤ nd ∧ t = .int .i64 (j : Int) ∧ Hid (Srt eR 46 w5 u gg gc (sunk (DK k) ⟨v, xo, xa⟩ j) ∧ ∀ i y, j ≤ i → (DK k)[i]? = some y → v < y.ver)) (fun t _ => (intOf t).toNat)
        case atStart => exact ⟨nd, Nat.le_refl _, by go_num, HS5.out.1, fun i y hi hy => by have := (List.getElem?_eq_some_iff.1 hy).1; have := HND.out; omega⟩
        case round =>
          obtain ⟨j, hj, rfl, hrel2⟩ := hrel
          obtain ⟨hS, hgt⟩ := hrel2.out
          have hbx : Box wr r #[vw, .slice (some ⟨gg, 0, none⟩) (nd + 1) gc] 39 := by
            obtain ⟨F1, h1, _⟩ := HV5.out
            exact h1.box.chg hS.chg (fun e => HS5.out.2 e.symm)
          have c1x : wr.cell? ⟨r, 1, none⟩ = some (.slice (some ⟨gg, 0, none⟩) (nd + 1) gc) := hbx.cell 1
          by_cases hj0 : j = 0
          · subst hj0
            have HF : Hid (∀ q, RcV w (wr.drewN q) B r S.wait (DK (k + 1)) (LK (k + 1)) F vw vl (.slice (some ⟨gg, 0, none⟩) (nd + 1) gc)) := fun q => HEND2.out _ 0 (by omega) (hS.drew q) hgt (.inl rfl)
            clear hS hgt hrel2 hbx
            go_wp2_with fail
            go_quiet (fail)
            go_wp2_with fail
            go_roundw
            case rel => exact ⟨k + 1, _, rfl, by omega, by simp, by rw [HHY.out.2.2, ← HNN.out]; go_num, _, HF.out _⟩
            case measure => simp only [intOf]; omega
          · obtain ⟨m, rfl⟩ : ∃ m, j = m + 1 := ⟨j - 1, by omega⟩
            have hmD : m < (DK k).length := by rw [← HND.out]; omega
            have hLj := sunk_before (DK k) ⟨v, xo, xa⟩ m (by rw [← HND.out]; exact hj)
            have hLi := sunk_at (DK k) ⟨v, xo, xa⟩ (m + 1) (by rw [← HND.out]; exact hj)
            have hswp := sunk_swap (DK k) ⟨v, xo, xa⟩ m (by rw [← HND.out]; exact hj)
            have hgm := List.getElem?_eq_getElem hmD
            obtain ⟨ye, hye⟩ : ∃ ye, ye = (DK k)[m]'hmD := ⟨_, rfl⟩
            rw [← hye] at hLj hswp hgm
            obtain ⟨yv, yo, ya⟩ := ye
            have hgt0 : (0 : Int) < (m : Int) + 1 := by omega
            have r1 : IntKind.i64.wrap (m : Int) = (m : Int) := by rw [IntKind.wrap_i64]; omega
            have r2 : IntKind.i64.wrap ((m : Int) + 1) = (m : Int) + 1 := by rw [IntKind.wrap_i64]; omega
            have r3 : (m : Int) < (nd : Int) + 1 := by omega
            have r4 : (m : Int) + 1 < (nd : Int) + 1 := by omega
            have r6 : (0 : Int) ≤ (m : Int) + 1 := by omega
            have r7 : ((m : Int) + 1).toNat = m + 1 := by omega
            have HG := hid (And.intro hgm (And.intro hLi hLj))
            have HSW := hid hswp
            obtain ⟨x0, x1, x2⟩ := hS.lay.get hLi
            obtain ⟨y0, y1, y2⟩ := hS.lay.get hLj
            simp only [eR] at x0 x1 x2 y0 y1 y2
            clear hye hmD hgm hLi hLj hswp
            by_cases hc : v < yv
            · have HGT : Hid (∀ i y, m ≤ i → (DK k)[i]? = some y → v < y.ver) := fun i y hi hy => by
                by_cases e : i = m
                · subst e; rw [HG.out.1] at hy; injection hy with hy; rw [← hy]; exact hc
                · exact hgt i y (by omega) hy
              have HS := hid hS
              clear hgt hrel2 hbx hS
              go_wp2_with fail
              go_quiet (fail)
              obtain ⟨wy, hwy⟩ : ∃ wy, wy = wr.drewN nq := ⟨_, rfl⟩
              have hSy : Srt eR 46 w5 wy gg gc (sunk (DK k) ⟨v, xo, xa⟩ (m + 1)) := by rw [hwy]; exact HS.out.drew nq
              have hbx : Box wy r #[vw, .slice (some ⟨gg, 0, none⟩) (nd + 1) gc] 39 := by
                obtain ⟨F1, h1, _⟩ := HV5.out
                exact h1.box.chg hSy.chg (fun e => HS5.out.2 e.symm)
              have c1y : wy.cell? ⟨r, 1, none⟩ = some (.slice (some ⟨gg, 0, none⟩) (nd + 1) gc) := hbx.cell 1
              rw [← hwy]
              have HSY := hid hSy
              clear hwy hSy HS c1x x0 x1 x2 y0 y1 y2
              go_wp2_with fail
              have HSy := HSY.out
              have HSd := HSy.drew 1
              have hLi := HG.out.2.1
              have hLj := HG.out.2.2
              obtain ⟨x0, x1, x2⟩ := HSd.lay.get hLi
              obtain ⟨y0, y1, y2⟩ := HSd.lay.get hLj
              obtain ⟨x0', x1', x2'⟩ := HSy.lay.get hLi
              obtain ⟨y0', y1', y2'⟩ := HSy.lay.get hLj
              have hst := HSy.swp hLi hLj
              obtain ⟨z0, z1, z2⟩ := HSd.lay.mid hLi hLj (by omega) _ rfl
              obtain ⟨z0', z1', z2'⟩ := HSy.lay.mid hLi hLj (by omega) _ rfl
              have e8 : swp (sunk (DK k) ⟨v, xo, xa⟩ (m + 1)) (m + 1) m = sunk (DK k) ⟨v, xo, xa⟩ m := by unfold swp; rw [hLi, hLj]; exact HSW.out
              rw [e8] at hst
              simp only [eR] at hst x0 x1 x2 y0 y1 y2 x0' x1' x2' y0' y1' y2' z0 z1 z2 z0' z1' z2'
              have HST := hid hst
              clear hst
              have cd1 : wy.drew.cell? ⟨r, 1, none⟩ = some (.slice (some ⟨gg, 0, none⟩) (nd + 1) gc) := c1y
              have HCS : Hid (∀ q ∈ [((⟨r, 1, none⟩ : Addr), (.slice (some ⟨gg, 0, none⟩) (nd + 1) gc : Value)), (⟨gg, (m + 1) * 3, none⟩, .int .i64 xo), (⟨gg, (m + 1) * 3 + 1, none⟩, .int .i64 xa), (⟨gg, (m + 1) * 3 + 2, none⟩, .int .i64 v), (⟨gg, m * 3, none⟩, .int .i64 yo), (⟨gg, m * 3 + 1, none⟩, .int .i64 ya), (⟨gg, m * 3 + 2, none⟩, .int .i64 yv)], wy.drew.cell? q.1 = some q.2) := fun q hq => by
                simp at hq
                rcases hq with rfl | rfl | rfl | rfl | rfl | rfl | rfl
                · exact cd1
                · exact x0
                · exact x1
                · exact x2
                · exact y0
                · exact y1
                · exact y2
              have fz : ∀ q : Nat, wy.frozen? ⟨gg, q, none⟩ = false := fun q => HSd.lay.frozen q
              clear HSY HSd HSy hLi hLj hbx
              refine wp_region_any (by kernel_rfl) ?_
              refine wpAny_take (i := 0) (v := ?_) rfl (by kernel_rfl) (by kernel_rfl) (by kernel_rfl) (fun _ _ _ h => h) (Or.inl ⟨by rfl, ?_⟩) ?_
              rotate_left
              · intro u
                go_simp
                with_reducible rfl
              simp only [Act.put, List.setIfInBounds_toArray, List.set_cons_zero, List.set_cons_succ, List.getElem_toArray, List.getElem_cons_zero]
              refine wpAny_take (i := 1) (v := ?_) rfl (by kernel_rfl) (by kernel_rfl) (by kernel_rfl) (fun _ _ _ h => h) (Or.inl ⟨by rfl, ?_⟩) ?_
              rotate_left
              · intro u
                go_simp
                with_reducible rfl
              simp only [Act.put, List.setIfInBounds_toArray, List.set_cons_zero, List.set_cons_succ, List.getElem_toArray, List.getElem_cons_zero, List.getElem_cons_succ]
              refine wpAny_take (i := 2) (v := ?_) rfl (by kernel_rfl) (by kernel_rfl) (by kernel_rfl) (fun _ _ _ h => h) (Or.inl ⟨by rfl, ?_⟩) ?_
              rotate_left
              · intro u
                go_simp
                with_reducible rfl
              simp only [Act.put, List.setIfInBounds_toArray, List.set_cons_zero, List.set_cons_succ, List.getElem_toArray, List.getElem_cons_zero, List.getElem_cons_succ]
              refine wpAny_take (i := 4) (v := ?_) rfl (by kernel_rfl) (by kernel_rfl) (by kernel_rfl) (fun _ _ _ h => h) (Or.inl ⟨by rfl, ?_⟩) ?_
              rotate_left
              · intro u
                go_simp
                with_reducible rfl
              simp only [Act.put, List.setIfInBounds_toArray, List.set_cons_zero, List.set_cons_succ, List.getElem_toArray, List.getElem_cons_zero, List.getElem_cons_succ]
              refine wpAny_take (i := 5) (v := ?_) rfl (by kernel_rfl) (by kernel_rfl) (by kernel_rfl) (fun _ _ _ h => h) (Or.inl ⟨by rfl, ?_⟩) ?_
              rotate_left
              · intro u
                go_simp
                with_reducible rfl
              simp only [Act.put, List.setIfInBounds_toArray, List.set_cons_zero, List.set_cons_succ, List.getElem_toArray, List.getElem_cons_zero, List.getElem_cons_succ]
              refine wpAny_take (i := 6) (v := ?_) rfl (by kernel_rfl) (by kernel_rfl) (by kernel_rfl) (fun _ _ _ h => h) (Or.inl ⟨by rfl, ?_⟩) ?_
              rotate_left
              · intro u
                go_simp
                with_reducible rfl
              simp only [Act.put, List.setIfInBounds_toArray, List.set_cons_zero, List.set_cons_succ, List.getElem_toArray, List.getElem_cons_zero, List.getElem_cons_succ]
              refine wpAny_take (i := 7) (v := ?_) rfl (by kernel_rfl) (by kernel_rfl) (by kernel_rfl) (fun _ _ _ h => h) (Or.inl ⟨by rfl, ?_⟩) ?_
              rotate_left
              · intro u
                go_simp
                with_reducible rfl
              simp only [Act.put, List.setIfInBounds_toArray, List.set_cons_zero, List.set_cons_succ, List.getElem_toArray, List.getElem_cons_zero, List.getElem_cons_succ]
              refine wpAny_take (i := 9) (v := ?_) rfl (by kernel_rfl) (by kernel_rfl) (by kernel_rfl) (fun _ _ _ h => h) (Or.inl ⟨by rfl, ?_⟩) ?_
              rotate_left
              · intro u
                go_simp
                with_reducible rfl
              simp only [Act.put, List.setIfInBounds_toArray, List.set_cons_zero, List.set_cons_succ, List.getElem_toArray, List.getElem_cons_zero, List.getElem_cons_succ]
              refine wpAny_take (i := 10) (v := ?_) rfl (by kernel_rfl) (by kernel_rfl) (by kernel_rfl) (fun _ _ _ h => h) (Or.inl ⟨by rfl, ?_⟩) ?_
              rotate_left
              · intro u
                go_simp
                with_reducible rfl
              simp only [Act.put, List.setIfInBounds_toArray, List.set_cons_zero, List.set_cons_succ, List.getElem_toArray, List.getElem_cons_zero, List.getElem_cons_succ]
              refine wpAny_take (i := 11) (v := ?_) rfl (by kernel_rfl) (by kernel_rfl) (by kernel_rfl) (fun _ _ _ h => h) (Or.inl ⟨by rfl, ?_⟩) ?_
              rotate_left
              · intro u
                go_simp
                with_reducible rfl
              simp only [Act.put, List.setIfInBounds_toArray, List.set_cons_zero, List.set_cons_succ, List.getElem_toArray, List.getElem_cons_zero, List.getElem_cons_succ]
              refine wpAny_take (i := 12) (v := ?_) rfl (by kernel_rfl) (by kernel_rfl) (by kernel_rfl) (fun _ _ _ h => h) (Or.inl ⟨by rfl, ?_⟩) ?_
              rotate_left
              · intro u
                go_simp
                with_reducible rfl
              simp only [Act.put, List.setIfInBounds_toArray, List.set_cons_zero, List.set_cons_succ, List.getElem_toArray, List.getElem_cons_zero, List.getElem_cons_succ]
              refine wpAny_take (i := 13) (v := ?_) rfl (by kernel_rfl) (by kernel_rfl) (by kernel_rfl) (fun _ _ _ h => h) (Or.inl ⟨by rfl, ?_⟩) ?_
              rotate_left
              · intro u
                go_simp
                with_reducible rfl
              simp only [Act.put, List.setIfInBounds_toArray, List.set_cons_zero, List.set_cons_succ, List.getElem_toArray, List.getElem_cons_zero, List.getElem_cons_succ]
              refine wpAny_take (i := 15) (v := ?_) rfl (by kernel_rfl) (by kernel_rfl) (by kernel_rfl) (fun _ _ _ h => h) (Or.inl ⟨by rfl, ?_⟩) ?_
              rotate_left
              · intro u
                go_simp
                with_reducible rfl
              simp only [Act.put, List.setIfInBounds_toArray, List.set_cons_zero, List.set_cons_succ, List.getElem_toArray, List.getElem_cons_zero, List.getElem_cons_succ]
              refine wpAny_take (i := 19) (v := ?_) rfl (by kernel_rfl) (by kernel_rfl) (by kernel_rfl) (fun _ _ _ h => h) (Or.inl ⟨by rfl, ?_⟩) ?_
              rotate_left
              · intro u
                go_simp
                with_reducible rfl
              simp only [Act.put, List.setIfInBounds_toArray, List.set_cons_zero, List.set_cons_succ, List.getElem_toArray, List.getElem_cons_zero, List.getElem_cons_succ]
              refine wpAny_take (i := 20) (v := ?_) rfl (by kernel_rfl) (by kernel_rfl) (by kernel_rfl) (fun _ _ _ h => h) (Or.inl ⟨by rfl, ?_⟩) ?_
              rotate_left
              · intro u
                go_simp
                with_reducible rfl
              simp only [Act.put, List.setIfInBounds_toArray, List.set_cons_zero, List.set_cons_succ, List.getElem_toArray, List.getElem_cons_zero, List.getElem_cons_succ]
              refine wpAny_take (i := 21) (v := ?_) rfl (by kernel_rfl) (by kernel_rfl) (by kernel_rfl) (fun _ _ _ h => h) (Or.inl ⟨by rfl, ?_⟩) ?_
              rotate_left
              · intro u
                go_simp
                with_reducible rfl
              simp only [Act.put, List.setIfInBounds_toArray, List.set_cons_zero, List.set_cons_succ, List.getElem_toArray, List.getElem_cons_zero, List.getElem_cons_succ]
              refine wpAny_take (i := 23) (v := ?_) rfl (by kernel_rfl) (by kernel_rfl) (by kernel_rfl) (fun _ _ _ h => h) (Or.inl ⟨by rfl, ?_⟩) ?_
              rotate_left
              · intro u
                go_simp
                with_reducible rfl
              simp only [Act.put, List.setIfInBounds_toArray, List.set_cons_zero, List.set_cons_succ, List.getElem_toArray, List.getElem_cons_zero, List.getElem_cons_succ]
              refine wpAny_of_E (C := SlotsCells [(89, .pointer (some ⟨r, 1, none⟩)), (94, .pointer (some ⟨r, 1, none⟩)), (100, .pointer (some ⟨r, 1, none⟩)), (108, .pointer (some ⟨r, 1, none⟩))] [((⟨r, 1, none⟩ : Addr), (.slice (some ⟨gg, 0, none⟩) (nd + 1) gc : Value)), (⟨gg, (m + 1) * 3, none⟩, .int .i64 xo), (⟨gg, (m + 1) * 3 + 1, none⟩, .int .i64 xa), (⟨gg, (m + 1) * 3 + 2, none⟩, .int .i64 v), (⟨gg, m * 3, none⟩, .int .i64 yo), (⟨gg, m * 3 + 1, none⟩, .int .i64 ya), (⟨gg, m * 3 + 2, none⟩, .int .i64 yv)]) (late := [27, 29]) _ _ _ _ ?_
              refine wpAnyE_take (i := 3) (v := .slice (some ⟨gg, 0, none⟩) (nd + 1) gc) rfl (by kernel_rfl) (by kernel_rfl) (by kernel_rfl) (by kernel_rfl) (by kernel_rfl) (by kernel_rfl) (fun _ _ _ h => h) ?_ (fun fr u h => (SlotsCells.put 90 _ (by rfl)).1 h) (fun fr u h => (SlotsCells.put 90 _ (by rfl)).2 h) ?_ ?_
              · intro fr u hh
                have e1 := hh.val (s := 89) (v := .pointer (some ⟨r, 1, none⟩)) (by simp)
                have d0 := hh.2 (⟨r, 1, none⟩, .slice (some ⟨gg, 0, none⟩) (nd + 1) gc) (by simp)
                exact ⟨rfl, by simp [execOp, e1, go_sem, d0]⟩
              · exact ⟨fun q hq => by simp at hq; rcases hq with rfl | rfl | rfl | rfl <;> rfl, HCS.out⟩
              simp only [Act.put, List.setIfInBounds_toArray, List.set_cons_zero, List.set_cons_succ, List.getElem_toArray, List.getElem_cons_zero, List.getElem_cons_succ]
              refine wpAnyE_take (i := 8) (v := .slice (some ⟨gg, 0, none⟩) (nd + 1) gc) rfl (by kernel_rfl) (by kernel_rfl) (by kernel_rfl) (by kernel_rfl) (by kernel_rfl) (by kernel_rfl) (fun _ _ _ h => h) ?_ (fun fr u h => (SlotsCells.put 95 _ (by rfl)).1 h) (fun fr u h => (SlotsCells.put 95 _ (by rfl)).2 h) ?_ ?_
              · intro fr u hh
                have e1 := hh.val (s := 94) (v := .pointer (some ⟨r, 1, none⟩)) (by simp)
                have d0 := hh.2 (⟨r, 1, none⟩, .slice (some ⟨gg, 0, none⟩) (nd + 1) gc) (by simp)
                exact ⟨rfl, by simp [execOp, e1, go_sem, d0]⟩
              · exact ⟨fun q hq => by simp at hq; rcases hq with rfl | rfl | rfl | rfl <;> rfl, HCS.out⟩
              simp only [Act.put, List.setIfInBounds_toArray, List.set_cons_zero, List.set_cons_succ, List.getElem_toArray, List.getElem_cons_zero, List.getElem_cons_succ]
              refine wpAnyE_take (i := 14) (v := .slice (some ⟨gg, 0, none⟩) (nd + 1) gc) rfl (by kernel_rfl) (by kernel_rfl) (by kernel_rfl) (by kernel_rfl) (by kernel_rfl) (by kernel_rfl) (fun _ _ _ h => h) ?_ (fun fr u h => (SlotsCells.put 101 _ (by rfl)).1 h) (fun fr u h => (SlotsCells.put 101 _ (by rfl)).2 h) ?_ ?_
              · intro fr u hh
                have e1 := hh.val (s := 100) (v := .pointer (some ⟨r, 1, none⟩)) (by simp)
                have d0 := hh.2 (⟨r, 1, none⟩, .slice (some ⟨gg, 0, none⟩) (nd + 1) gc) (by simp)
                exact ⟨rfl, by simp [execOp, e1, go_sem, d0]⟩
              · exact ⟨fun q hq => by simp at hq; rcases hq with rfl | rfl | rfl | rfl <;> rfl, HCS.out⟩
              simp only [Act.put, List.setIfInBounds_toArray, List.set_cons_zero, List.set_cons_succ, List.getElem_toArray, List.getElem_cons_zero, List.getElem_cons_succ]
              refine wpAnyE_take (i := 22) (v := .slice (some ⟨gg, 0, none⟩) (nd + 1) gc) rfl (by kernel_rfl) (by kernel_rfl) (by kernel_rfl) (by kernel_rfl) (by kernel_rfl) (by kernel_rfl) (fun _ _ _ h => h) ?_ (fun fr u h => (SlotsCells.put 109 _ (by rfl)).1 h) (fun fr u h => (SlotsCells.put 109 _ (by rfl)).2 h) ?_ ?_
              · intro fr u hh
                have e1 := hh.val (s := 108) (v := .pointer (some ⟨r, 1, none⟩)) (by simp)
                have d0 := hh.2 (⟨r, 1, none⟩, .slice (some ⟨gg, 0, none⟩) (nd + 1) gc) (by simp)
                exact ⟨rfl, by simp [execOp, e1, go_sem, d0]⟩
              · exact ⟨fun q hq => by simp at hq; rcases hq with rfl | rfl | rfl | rfl <;> rfl, HCS.out⟩
              simp only [Act.put, List.setIfInBounds_toArray, List.set_cons_zero, List.set_cons_succ, List.getElem_toArray, List.getElem_cons_zero, List.getElem_cons_succ]
              refine wpAnyE_pure (i := 16) (v := ?_) rfl (by kernel_rfl) (by kernel_rfl) (by kernel_rfl) (by kernel_rfl) (fun _ _ _ h => h) (fun fr u h => (SlotsCells.put 103 _ (by rfl)).1 h) (fun fr u h => (SlotsCells.put 103 _ (by rfl)).2 h) (.inr ⟨fun q hq => by simp at hq; rcases hq with rfl | rfl | rfl | rfl <;> rfl, HCS.out⟩) (Or.inl ⟨by rfl, ?_⟩) ?_
              rotate_left
              · intro u
                go_simp
                with_reducible rfl
              simp only [Act.put, List.setIfInBounds_toArray, List.set_cons_zero, List.set_cons_succ, List.getElem_toArray, List.getElem_cons_zero, List.getElem_cons_succ]
              refine wpAnyE_pure (i := 17) (v := ?_) rfl (by kernel_rfl) (by kernel_rfl) (by kernel_rfl) (by kernel_rfl) (fun _ _ _ h => h) (fun fr u h => (SlotsCells.put 104 _ (by rfl)).1 h) (fun fr u h => (SlotsCells.put 104 _ (by rfl)).2 h) (.inr ⟨fun q hq => by simp at hq; rcases hq with rfl | rfl | rfl | rfl <;> rfl, HCS.out⟩) (Or.inl ⟨by rfl, ?_⟩) ?_
              rotate_left
              · intro u
                go_simp
                with_reducible rfl
              simp only [Act.put, List.setIfInBounds_toArray, List.set_cons_zero, List.set_cons_succ, List.getElem_toArray, List.getElem_cons_zero, List.getElem_cons_succ]
              refine wpAnyE_pure (i := 24) (v := ?_) rfl (by kernel_rfl) (by kernel_rfl) (by kernel_rfl) (by kernel_rfl) (fun _ _ _ h => h) (fun fr u h => (SlotsCells.put 111 _ (by rfl)).1 h) (fun fr u h => (SlotsCells.put 111 _ (by rfl)).2 h) (.inr ⟨fun q hq => by simp at hq; rcases hq with rfl | rfl | rfl | rfl <;> rfl, HCS.out⟩) (Or.inl ⟨by rfl, ?_⟩) ?_
              rotate_left
              · intro u
                go_simp
                with_reducible rfl
              simp only [Act.put, List.setIfInBounds_toArray, List.set_cons_zero, List.set_cons_succ, List.getElem_toArray, List.getElem_cons_zero, List.getElem_cons_succ]
              refine wpAnyE_mono (C' := SlotsCells [(89, .pointer (some ⟨r, 1, none⟩)), (94, .pointer (some ⟨r, 1, none⟩)), (100, .pointer (some ⟨r, 1, none⟩)), (108, .pointer (some ⟨r, 1, none⟩)), (104, .pointer (some ⟨gg, m * 3, none⟩)), (111, .pointer (some ⟨gg, (m + 1) * 3, none⟩))] [((⟨r, 1, none⟩ : Addr), (.slice (some ⟨gg, 0, none⟩) (nd + 1) gc : Value)), (⟨gg, (m + 1) * 3, none⟩, .int .i64 xo), (⟨gg, (m + 1) * 3 + 1, none⟩, .int .i64 xa), (⟨gg, (m + 1) * 3 + 2, none⟩, .int .i64 v), (⟨gg, m * 3, none⟩, .int .i64 yo), (⟨gg, m * 3 + 1, none⟩, .int .i64 ya), (⟨gg, m * 3 + 2, none⟩, .int .i64 yv)]) (fun a u h => ⟨fun p hp => h.1 p (List.mem_append_left [(104, Value.pointer (some ⟨gg, m * 3, none⟩)), (111, .pointer (some ⟨gg, (m + 1) * 3, none⟩))] hp), h.2⟩) _ _ _ _ ?_
              refine wpAnyE_take (i := 18) (v := .agg #[.int .i64 yo, .int .i64 ya, .int .i64 yv]) rfl (by kernel_rfl) (by kernel_rfl) (by kernel_rfl) (by kernel_rfl) (by kernel_rfl) (by kernel_rfl) (fun _ _ _ h => h) ?_ (fun fr u h => (SlotsCells.put 105 _ (by rfl)).1 h) (fun fr u h => (SlotsCells.put 105 _ (by rfl)).2 h) ?_ ?_
              · intro fr u hh
                have e1 := hh.val (s := 104) (v := .pointer (some ⟨gg, m * 3, none⟩)) (by simp)
                have d0 := hh.2 (⟨gg, m * 3, none⟩, .int .i64 yo) (by simp)
                have d1 := hh.2 (⟨gg, m * 3 + 1, none⟩, .int .i64 ya) (by simp)
                have d2 := hh.2 (⟨gg, m * 3 + 2, none⟩, .int .i64 yv) (by simp)
                exact ⟨rfl, by simp [execOp, e1, go_sem, d0, d1, d2]⟩
              · exact ⟨fun q hq => by simp at hq; rcases hq with rfl | rfl | rfl | rfl | rfl | rfl <;> rfl, HCS.out⟩
              simp only [Act.put, List.setIfInBounds_toArray, List.set_cons_zero, List.set_cons_succ, List.getElem_toArray, List.getElem_cons_zero, List.getElem_cons_succ]
              refine wpAnyE_take (i := 25) (v := .agg #[.int .i64 xo, .int .i64 xa, .int .i64 v]) rfl (by kernel_rfl) (by kernel_rfl) (by kernel_rfl) (by kernel_rfl) (by kernel_rfl) (by kernel_rfl) (fun _ _ _ h => h) ?_ (fun fr u h => (SlotsCells.put 112 _ (by rfl)).1 h) (fun fr u h => (SlotsCells.put 112 _ (by rfl)).2 h) ?_ ?_
              · intro fr u hh
                have e1 := hh.val (s := 111) (v := .pointer (some ⟨gg, (m + 1) * 3, none⟩)) (by simp)
                have d0 := hh.2 (⟨gg, (m + 1) * 3, none⟩, .int .i64 xo) (by simp)
                have d1 := hh.2 (⟨gg, (m + 1) * 3 + 1, none⟩, .int .i64 xa) (by simp)
                have d2 := hh.2 (⟨gg, (m + 1) * 3 + 2, none⟩, .int .i64 v) (by simp)
                exact ⟨rfl, by simp [execOp, e1, go_sem, d0, d1, d2]⟩
              · exact ⟨fun q hq => by simp at hq; rcases hq with rfl | rfl | rfl | rfl | rfl | rfl <;> rfl, HCS.out⟩
              simp only [Act.put, List.setIfInBounds_toArray, List.set_cons_zero, List.set_cons_succ, List.getElem_toArray, List.getElem_cons_zero, List.getElem_cons_succ]
              refine wpAnyE_pure (i := 26) (v := ?_) rfl (by kernel_rfl) (by kernel_rfl) (by kernel_rfl) (by kernel_rfl) (fun _ _ _ h => h) (fun fr u h => (SlotsCells.put 113 _ (by rfl)).1 h) (fun fr u h => (SlotsCells.put 113 _ (by rfl)).2 h) (.inr ⟨fun q hq => by simp at hq; rcases hq with rfl | rfl | rfl | rfl | rfl | rfl <;> rfl, HCS.out⟩) (Or.inl ⟨by rfl, ?_⟩) ?_
              rotate_left
              · intro u
                go_simp
                with_reducible rfl
              simp only [Act.put, List.setIfInBounds_toArray, List.set_cons_zero, List.set_cons_succ, List.getElem_toArray, List.getElem_cons_zero, List.getElem_cons_succ]
              refine wpAnyE_some (rs := [27]) (by kernel_rfl) (by simp) (fun i hi => ?_)
              simp only [List.mem_cons, List.not_mem_nil, or_false] at hi
              subst hi
              refine wpOp_step rfl (fun Kc hKc => ?_)
              go_simp
              refine hKc _ _ ⟨.inr (.inl rfl), ?_⟩
              clear hKc Kc
              refine wpAnyE_some (rs := [28]) (by kernel_rfl) (by simp) (fun i hi => ?_)
              simp only [List.mem_cons, List.not_mem_nil, or_false] at hi
              subst hi
              refine wpOp_step rfl (fun Kc hKc => ?_)
              go_simp
              refine hKc _ _ ⟨.inl (by kernel_rfl), ?_⟩
              clear hKc Kc
              refine wpAnyE_some (rs := [29]) (by kernel_rfl) (by simp) (fun i hi => ?_)
              simp only [List.mem_cons, List.not_mem_nil, or_false] at hi
              subst hi
              refine wpOp_step rfl (fun Kc hKc => ?_)
              go_simp
              refine hKc _ _ ⟨.inr (.inl rfl), ?_⟩
              clear hKc Kc
              refine wpAnyE_done (by kernel_rfl) ?_ _
              go_wp2_with fail
              go_roundw
              case rel => exact ⟨m, by omega, by simp, HST.out.drew 1, HGT.out⟩
              case measure => simp only [intOf]; omega
            · have HF : Hid (∀ q, RcV w (wr.drewN q) B r S.wait (DK (k + 1)) (LK (k + 1)) F vw vl (.slice (some ⟨gg, 0, none⟩) (nd + 1) gc)) := fun q => HEND2.out _ (m + 1) hj (hS.drew q) hgt (.inr ⟨⟨yv, yo, ya⟩, HG.out.1, by show yv ≤ v; omega⟩)
              clear hS hgt hrel2 hbx HG HSW
              go_wp2_with fail
              go_quiet (fail)
              go_wp2_with fail
              go_roundw
              case rel => exact ⟨k + 1, _, rfl, by omega, by simp, by rw [HHY.out.2.2, ← HNN.out]; go_num, _, HF.out _⟩
              case measure => simp only [intOf]; omega
      · have hno := HNO.out k _ HX.out hoo
        have HHN := hid hno
        have hll : (LK k).length ≤ 1024 := by have := hnk.2.1; omega
        clear hno hnk
        obtain ⟨na, hna⟩ : ∃ na, na = (LK k).length := ⟨_, rfl⟩
        have hrl : IsRow eR 46 wr w.heap.size vl (LK k) ∧ w.heap.size ≤ wr.heap.size := by
          obtain ⟨F1, h1, h2, h3, h4, h5⟩ := hv1
          exact ⟨h4, h3.size⟩
        obtain ⟨av, cv, hva⟩ := ownsRow_slice hrl.1
        rw [← hna] at hva
        subst hva
        have hnal : na ≤ 1024 := by omega
        have b3 := (Below.refl wr.heap.size wr).alloc (Nat.le_refl _) (.cells #[.int .i64 xo, .int .i64 xa, .int .i64 xv] 46)
        have hx3 := Box.new wr #[.int .i64 xo, .int .i64 xa, .int .i64 xv] 46
        have b4 := b3.trans (((Below.refl _ (wr.alloc (.cells #[.int .i64 xo, .int .i64 xa, .int .i64 xv] 46))).alloc (Nat.le_refl _) (.cells #[.int .i64 xo, .int .i64 xa, .int .i64 xv] 46)).mono (by simp))
        have ho3 := ownsRow_below' hrl.1 b4
        have hx4 : Box ((wr.alloc (.cells #[.int .i64 xo, .int .i64 xa, .int .i64 xv] 46)).alloc (.cells #[.int .i64 xo, .int .i64 xa, .int .i64 xv] 46)) (wr.heap.size + 1) #[.int .i64 xo, .int .i64 xa, .int .i64 xv] 46 := by
          have := Box.new (wr.alloc (.cells #[.int .i64 xo, .int .i64 xa, .int .i64 xv] 46)) #[.int .i64 xo, .int .i64 xa, .int .i64 xv] 46
          simpa using this
        rw [← hna] at ho3
        have h2s : w.heap.size ≤ wr.heap.size := hrl.2
        have HG := hid (And.intro hv1 (And.intro ho3 (And.intro hna (And.intro hx4 b4))))
        clear hv1 ho3 hna hx4 b4 hrl
        go_wp2_with (at_builtin; refine wpList_append_own_at _ rfl _ _ 37 rfl w.heap.size 46 i0 (.agg #[.int .i64 0, .int .i64 0, .int .i64 0]) 3 24 Try.underlying37 hi0 hz0 hz1 hz2 rfl (by decide) _ na _ rfl HG.out.2.1 ⟨wr.heap.size + 1, 0, none⟩ 1 1 [.int .i64 xo, .int .i64 xa, .int .i64 xv] rfl rfl (World.news_of_block HG.out.2.2.2.1) ?c2 ?c3 ?c4 ?c5 ?_)
        case c2 => first | exact ⟨rfl, rfl, rfl⟩ | (intro u hu; simp at hu; rcases hu with rfl | rfl | rfl <;> rfl)
        case c3 => unfold maxLen; omega
        case c4 => omega
        try (case c5 => first | exact h2s | omega | (simp; omega))
        intro v' w5 hown5 hgrow _ hat
        obtain ⟨av', cv', rfl⟩ := ownsRow_slice hown5
        have hv5 := HG.out.1.more HG.out.2.2.2.2 ⟨xv, xo, xa⟩ hgrow (by rw [← HG.out.2.2.1]; exact hown5) _ (by omega) hat
        rw [← HHN.out.2.1, ← HHN.out.1] at hv5
        have HF := hid hv5
        clear hv5 hown5 hgrow hat HG x0 x1 x2 c0x
        go_wp2_with fail
        go_roundw
        case rel => exact ⟨k + 1, _, rfl, by omega, by simp, by rw [HHN.out.2.2, ← HNN.out], _, HF.out⟩
        case measure => simp only [intOf]; omega
    · have hki : ¬ (k : Int) < (nw : Int) := by omega
      obtain rfl : k = nw := by omega
      have hend := HEND.out _ _ _ hv1
      have f0x : wr.frozen? ⟨r, 0, none⟩ = false := by
        obtain ⟨F1, h1, _⟩ := hv1
        exact h1.box.frozen 0
      obtain ⟨av, nv, cv, hva⟩ : ∃ av nv cv, vl = .slice av nv cv := by
        obtain ⟨F1, h1, h2, h3, h4, h5⟩ := hv1
        obtain ⟨a, c, hh⟩ := ownsRow_slice h4
        exact ⟨a, _, c, hh⟩
      subst hva
      have HF := hid hend
      have hnz : ((NK k : Nat) : Int) = RES := by rw [HF.out.1]; exact HSZ.out
      rw [hnz]
      clear hend hv1 hrel hnz
      go_wp2_with fail
      go_ret2
      exact ⟨rfl, HF.out.2⟩
end Go.Proofs.Ytlbnilendcelkaa
