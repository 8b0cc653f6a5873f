/-
  The document's queue, in memory.
-/
import Derived.Test.YtlbnilendcelkaaCmm
namespace Go.Proofs.Ytlbnilendcelkaa
open Go.RowKit
def eR : Enc (En Int) := ⟨fun e => .int .i64 e.own, fun e => .int .i64 e.act, fun e => .int .i64 e.ver, fun _ => rfl, fun _ => rfl, fun _ => rfl⟩
theorem infoR : (Try.prog.info? 46).map (fun i => (i.zero, i.size, i.bytes)) = some (some (.agg #[.int .i64 0, .int .i64 0, .int .i64 0]), 3, 24) := by kernel_rfl
/-- the document's queue, in memory -/
structure IsRf (w : World) (B r : Nat) (S : QS Int) (F : Nat → Prop) (vw vd : Value) : Prop where
  fq : F r
  fB : ∀ k, F k → B ≤ k ∧ k < w.heap.size
  box : Box w r #[vw, vd] 39
  rw : IsRow eR 46 w B vw S.wait
  rd : IsRow eR 46 w B vd S.due
  fw : ∀ k, vw.ownBlock = some k → F k ∧ k ≠ r
  fd : ∀ k, vd.ownBlock = some k → F k ∧ k ≠ r
  ne : ∀ k, vw.ownBlock = some k → vd.ownBlock ≠ some k
  rm : S.wait.length + S.due.length ≤ 1024
def HasR (w : World) (B r : Nat) (S : QS Int) (F : Nat → Prop) : Prop := ∃ vw vd, IsRf w B r S F vw vd ∧ Rise En.ver S.due
structure ToR (w : World) (B r : Nat) (S : QS Int) (F : Nat → Prop) (w' : World) : Prop where
  is : ∃ F', (∀ k, F' k → F k ∨ w.heap.size ≤ k) ∧ HasR w' B r S F'
  chg : Chg F w w'
theorem IsRf.chg {w w' : World} {B r : Nat} {S : QS Int} {F G : Nat → Prop} {vw vd : Value} (h : IsRf w B r S F vw vd) (k : Chg G w w') (hn : ∀ i, F i → ¬ G i) : IsRf w' B r S F vw vd :=
  ⟨h.fq, fun i hi => ⟨(h.fB i hi).1, Nat.lt_of_lt_of_le (h.fB i hi).2 k.size⟩, h.box.chg k (hn _ h.fq), h.rw.chg k (fun b hb => hn _ (h.fw b hb).1), h.rd.chg k (fun b hb => hn _ (h.fd b hb).1), h.fw, h.fd, h.ne, h.rm⟩
theorem IsRf.below {w w' : World} {B r : Nat} {S : QS Int} {F : Nat → Prop} {vw vd : Value} (h : IsRf w B r S F vw vd) (k : Below w.heap.size w w') : IsRf w' B r S F vw vd := h.chg (G := fun _ => False) (Chg.ofBelow k) (fun _ _ x => x)
theorem HasR.chg {w w' : World} {B r : Nat} {S : QS Int} {F G : Nat → Prop} (h : HasR w B r S F) (k : Chg G w w') (hn : ∀ i, F i → ¬ G i) : HasR w' B r S F := by
  obtain ⟨vw, vd, h, hr⟩ := h
  exact ⟨vw, vd, h.chg k hn, hr⟩
theorem HasR.below {w w' : World} {B r : Nat} {S : QS Int} {F : Nat → Prop} (h : HasR w B r S F) (k : Below w.heap.size w w') : HasR w' B r S F := h.chg (G := fun _ => False) (Chg.ofBelow k) (fun _ _ x => x)
theorem ToR.same {w w' : World} {B r : Nat} {S : QS Int} {F : Nat → Prop} (h : HasR w B r S F) (k : Below w.heap.size w w') : ToR w B r S F w' := ⟨⟨F, fun _ h => .inl h, h.below k⟩, Chg.ofBelow k⟩
theorem base_of' {w : World} {B B' : Nat} {v : Value} {l : List (En Int)} (h : IsRow eR 46 w B v l) (hb : B' ≤ B) : IsRow eR 46 w B' v l := by
  refine ⟨h.1, ?_⟩
  rcases h.2 with h | ⟨g, cap, cur, e, hB, r⟩
  · exact .inl h
  · exact .inr ⟨g, cap, cur, e, by omega, r⟩
/-- who is due is put in place of it: a row of one's own, made since -/
theorem IsRf.setD {w u : World} {B r : Nat} {S : QS Int} {F : Nat → Prop} {vw vd v : Value} {D : List (En Int)} (h : IsRf w B r S F vw vd) (hb : Below w.heap.size w u) (hr : IsRow eR 46 u w.heap.size v D) (hri : Rise En.ver D) (hrm : S.wait.length + D.length ≤ 1024) : ToR w B r ⟨S.wait, D⟩ F (u.setCell ⟨r, 1, none⟩ v) := by
  have hu := h.below hb
  have hlt := (h.fB r h.fq).2
  have hc : Chg (fun k => k = r) u (u.setCell ⟨r, 1, none⟩ v) := (Chg.refl _ u).setCell r 1 v (fun _ => rfl)
  have hvn : ∀ k, v.ownBlock = some k → w.heap.size ≤ k ∧ k < u.heap.size := fun k hk => ⟨(hr.lt k hk).2, (hr.lt k hk).1⟩
  have hBw : B ≤ w.heap.size := by have := (h.fB r h.fq).1; omega
  refine ⟨⟨fun k => F k ∨ v.ownBlock = some k, fun k hk => hk.elim .inl (fun e => .inr (hvn k e).1), vw, v, ⟨.inl h.fq, fun k hk => ?_, ?_, hu.rw.chg hc (fun b e => (hu.fw b e).2), ?_, fun k e => ⟨.inl (h.fw k e).1, (h.fw k e).2⟩, fun k e => ⟨.inr e, fun e' => by have := (hvn k e).1; omega⟩, fun k e e' => by have := (h.fB k (h.fw k e).1).2; have := (hvn k e').1; omega, hrm⟩, hri⟩, ?_⟩
  · have hs := hc.size
    rcases hk with hk | hk
    · have := hu.fB k hk; omega
    · have := hvn k hk; omega
  · have := hu.box.store 1 v; simpa using this
  · exact (base_of' hr hBw).chg hc (fun b e e' => by have := (hvn b e).1; omega)
  · exact (Chg.ofBelow hb).trans (hc.mono (S' := F) (fun k _ e => by rw [e]; exact h.fq)) (fun _ _ x => x)
theorem IsRf.setW {w u : World} {B r : Nat} {S : QS Int} {F : Nat → Prop} {vw vd v : Value} {W : List (En Int)} (h : IsRf w B r S F vw vd) (hb : Below w.heap.size w u) (hr : IsRow eR 46 u w.heap.size v W) (hri : Rise En.ver S.due) (hrm : W.length + S.due.length ≤ 1024) : ToR w B r ⟨W, S.due⟩ F (u.setCell ⟨r, 0, none⟩ v) := by
  have hu := h.below hb
  have hlt := (h.fB r h.fq).2
  have hc : Chg (fun k => k = r) u (u.setCell ⟨r, 0, none⟩ v) := (Chg.refl _ u).setCell r 0 v (fun _ => rfl)
  have hvn : ∀ k, v.ownBlock = some k → w.heap.size ≤ k ∧ k < u.heap.size := fun k hk => ⟨(hr.lt k hk).2, (hr.lt k hk).1⟩
  have hBw : B ≤ w.heap.size := by have := (h.fB r h.fq).1; omega
  refine ⟨⟨fun k => F k ∨ v.ownBlock = some k, fun k hk => hk.elim .inl (fun e => .inr (hvn k e).1), v, vd, ⟨.inl h.fq, fun k hk => ?_, ?_, ?_, hu.rd.chg hc (fun b e => (hu.fd b e).2), fun k e => ⟨.inr e, fun e' => by have := (hvn k e).1; omega⟩, fun k e => ⟨.inl (h.fd k e).1, (h.fd k e).2⟩, fun k e e' => by have := (h.fB k (h.fd k e').1).2; have := (hvn k e).1; omega, hrm⟩, hri⟩, ?_⟩
  · have hs := hc.size
    rcases hk with hk | hk
    · have := hu.fB k hk; omega
    · have := hvn k hk; omega
  · have := hu.box.store 0 v; simpa using this
  · exact (base_of' hr hBw).chg hc (fun b e e' => by have := (hvn b e).1; omega)
  · exact (Chg.ofBelow hb).trans (hc.mono (S' := F) (fun k _ e => by rw [e]; exact h.fq)) (fun _ _ x => x)
set_option maxRecDepth 100000 in
theorem rmark_at {w : World} {B r : Nat} {S : QS Int} {F : Nat → Prop} (h0 : HasR w B r S F) (o : Int) :
    Calls Try.prog 19 #[ptr r, .int .i64 o] w fun e w' => e = .returned (.int .i64 ((S.mine o).length : Int)) ∧ w' = w := by
  obtain ⟨vw, vd, h, _⟩ := h0
  have c0 : w.cell? ⟨r, 0, none⟩ = some vw := h.box.cell 0
  obtain ⟨nw, hnw⟩ : ∃ nw, nw = S.wait.length := ⟨_, rfl⟩
  obtain ⟨aw, cw, hvw⟩ := ownsRow_slice h.rw
  rw [← hnw] at hvw
  have hnl : nw ≤ 1024 := by have := h.rm; omega
  have HR := hid h.rw
  have HN := hid (And.intro hnw hvw)
  rw [hvw] at c0
  clear h hnw hvw
  unfold ptr at *
  go_enter Try.func19, Try.ntmps19
  go_wp2_with fail
  go_loopw [5, 6] (fun c i u => ∃ k : Nat, k ≤ nw ∧ i = .int .i64 (k : Int) ∧ c = .int .i64 ((((S.wait.take k).filter fun e => decide (e.own = o)).length : Nat) : Int) ∧ u = w) (fun _ i _ => nw - (intOf i).toNat)
  case atStart => exact ⟨0, Nat.zero_le _, by simp, by simp, rfl⟩
  case round =>
    obtain ⟨k, hk, rfl, rfl, rfl⟩ := hrel
    by_cases hlt : k < nw
    · have hkD : k < S.wait.length := by rw [← HN.out.1]; exact hlt
      have hki : (k : Int) < (nw : Int) := by omega
      have hx := List.getElem?_eq_getElem hkD
      have htk : S.wait.take (k + 1) = S.wait.take k ++ [S.wait[k]] := List.take_succ_eq_append_getElem hkD
      obtain ⟨xe, hxe⟩ : ∃ xe, xe = S.wait[k]'hkD := ⟨_, rfl⟩
      rw [← hxe] at hx htk
      obtain ⟨xv, xo, xa⟩ := xe
      have HT := hid htk
      rcases HR.out.lay with ⟨hv0, _⟩ | ⟨b1, cap1, hv1, _, l1⟩
      · rw [HN.out.2] at hv0; injection hv0 with _ hz; omega
      rw [HN.out.2, ← HN.out.1] at hv1
      injection hv1 with e1 _ e2
      subst e1 e2
      obtain ⟨x0, x1, x2⟩ := l1.get hx
      simp only [eR] at x0 x1 x2
      have hcl : ((S.wait.take k).filter fun e => decide (e.own = o)).length ≤ k := by
        have := List.length_filter_le (fun e : En Int => decide (e.own = o)) (S.wait.take k)
        have := List.length_take_le k S.wait
        omega
      obtain ⟨cc, hcc⟩ : ∃ cc, cc = ((S.wait.take k).filter fun e => decide (e.own = o)).length := ⟨_, rfl⟩
      rw [← hcc] at hcl ⊢
      have HC := hid hcc
      clear hx htk hxe hcc l1 x1 x2
      by_cases ho : xo = o
      · have hst : ((S.wait.take (k + 1)).filter fun e => decide (e.own = o)).length = cc + 1 := by
          rw [HT.out, List.filter_append, List.length_append, ← HC.out]; simp [ho]
        have HST := hid hst
        clear hst
        go_wp2_with fail
        go_roundw
        case rel => exact ⟨k + 1, by omega, by simp, by rw [HST.out]; simp, by simp⟩
        case measure => simp only [intOf]; omega
      · have hst : ((S.wait.take (k + 1)).filter fun e => decide (e.own = o)).length = cc := by
          rw [HT.out, List.filter_append, List.length_append, ← HC.out]; simp [ho]
        have HST := hid hst
        clear hst
        go_wp2_with fail
        go_roundw
        case rel => exact ⟨k + 1, by omega, by simp, by rw [HST.out], by simp⟩
        case measure => simp only [intOf]; omega
    · have hki : ¬ (k : Int) < (nw : Int) := by omega
      obtain rfl : k = nw := by omega
      have hst : (S.wait.take k).filter (fun e => decide (e.own = o)) = S.mine o := by rw [HN.out.1, List.take_length]; rfl
      rw [hst]
      obtain ⟨z, hz⟩ : ∃ z, z = (S.mine o).length := ⟨_, rfl⟩
      rw [← hz]
      have HZ := hid hz
      clear hz hst
      go_wp2_with fail
      go_ret
      rw [HZ.out]; simp
end Go.Proofs.Ytlbnilendcelkaa
