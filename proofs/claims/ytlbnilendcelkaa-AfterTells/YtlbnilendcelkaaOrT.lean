/-
  The closure of AfterOrder.
-/
import Derived.Test.YtlbnilendcelkaaOrM
namespace Go.Proofs.Ytlbnilendcelkaa
open Go.RowKit Go.Maps
theorem up_up {A : Type} (V : Int → A) (i : Int) (v v' : A) : up (up V i v) i v' = up V i v' := by
  funext j
  unfold up
  split <;> rfl
def lastV (D : List (En Int)) (k : Nat) : Int := if h : 0 < k ∧ k - 1 < D.length then (D[k - 1]'h.2).ver else 0
theorem lastV_succ (D : List (En Int)) (k : Nat) (h : k < D.length) : lastV D (k + 1) = (D[k]'h).ver := by
  unfold lastV
  rw [dif_pos ⟨by omega, by simpa using h⟩]
  rfl
theorem lastV_le {D : List (En Int)} (hr : Rise En.ver D) (hp : ∀ e ∈ D, 1 ≤ e.ver) (k : Nat) (h : k < D.length) : lastV D k ≤ (D[k]'h).ver := by
  unfold lastV
  split
  · next h1 => exact rise_get En.ver hr (i := k - 1) (j := k) (by omega) (List.getElem?_eq_getElem h1.2) (List.getElem?_eq_getElem h)
  · have := hp _ (List.getElem_mem h); omega
theorem info3' : (Try.prog.info? 3).map (fun i => (i.zero, i.size, i.bytes)) = some (some (.int .i64 0), 1, 8) := by kernel_rfl
set_option maxHeartbeats 1600000 in
set_option maxRecDepth 100000 in
theorem tell_at {w0 u : World} {q qb gb mb n : Nat} {S : QS Int} {V : Int → Value} {L : Int → List Int} (h : OM w0 u q qb gb mb n S V L) (ver : Int) (hT : S.take ver = (S.due, ⟨S.wait, []⟩)) (hv : ∀ e ∈ S.due, 1 ≤ e.ver ∧ e.ver ≤ ver) (hri : Rise En.ver S.due) (hlen : (L 6).length + S.due.length ≤ 2000) :
    Calls Try.prog 21 (#[.int .i64 ver] ++ #[ptr qb, ptr gb]) u fun r u' => r = .returned (.bool true) ∧ ∃ v, OM w0 u' q qb gb mb n ⟨S.wait, []⟩ (up V 6 v) (up L 6 (L 6 ++ acts S.due)) := by
  have cT := h.take ver
  rw [hT] at cT
  have cq : u.cell? ⟨qb, 0, none⟩ = some (ptr q) := h.oc.bq.cell 0
  obtain ⟨D, hD⟩ : ∃ D, D = S.due := ⟨_, rfl⟩
  obtain ⟨Wt, hW⟩ : ∃ Wt, Wt = S.wait := ⟨_, rfl⟩
  rw [← hD] at hv hri hlen
  rw [← hD, ← hW] at cT ⊢
  have HD := hid (And.intro hv (And.intro hri hlen))
  obtain ⟨nd, hnd⟩ : ∃ nd, nd = D.length := ⟨_, rfl⟩
  have HN := hid hnd
  have hnd2 : nd ≤ 2000 := by omega
  clear h hT hv hri hlen hD hW hnd
  unfold ptr at *
  go_enter Try.func21, Try.ntmps21
  go_wp2_with fail
  refine Calls.mono cT ?_
  rintro e u1 ⟨vr, rfl, hrow, hom⟩
  obtain ⟨ar, cr, hvr⟩ := ownsRow_slice hrow
  rw [← HN.out] at hvr
  subst hvr
  have HR := hid hrow
  have H1 := hid hom
  clear cT cq hrow hom
  go_wp2_with fail
  go_loopw [5, 12] (fun l i x => ∃ k : Nat, k ≤ nd ∧ i = .int .i64 (k : Int) ∧ l = .int .i64 (lastV D k) ∧ Hid ((∃ v, OM w0 x q qb gb mb n ⟨Wt, []⟩ (up V 6 v) (up L 6 (L 6 ++ acts (D.take k)))) ∧ IsRow eI 33 x u.heap.size (.slice ar nd cr) D)) (fun _ i _ => nd - (intOf i).toNat)
  case atStart => 
    refine ⟨0, Nat.zero_le _, by simp, by simp [lastV], ⟨V 6, ?_⟩, HR.out⟩
    have e1 : up V 6 (V 6) = V := by funext j; unfold up; split <;> simp_all
    have e2 : up L 6 (L 6 ++ acts (D.take 0)) = L := by funext j; unfold up; split <;> simp_all [acts]
    rw [e1, e2]; exact H1.out
  case round =>
    clear H1 HR
    obtain ⟨k, hk, rfl, rfl, hrel⟩ := hrel
    by_cases hlt : k < nd
    · have hkD : k < D.length := by rw [← HN.out]; exact hlt
      obtain ⟨⟨vg, hom⟩, hrow⟩ := hrel.out
      have hki : (k : Int) < (nd : Int) := by omega
      have hla := lastV_le HD.out.2.1 (fun e he => (HD.out.1 e he).1) k hkD
      have hle := (HD.out.1 _ (List.getElem_mem hkD)).2
      have hx := List.getElem?_eq_getElem hkD
      have HLV := hid (lastV_succ D k hkD)
      obtain ⟨xe, hxe⟩ : ∃ xe, xe = D[k]'hkD := ⟨_, rfl⟩
      rw [← hxe] at hla hle hx HLV
      have HX := hid hx
      clear hxe hx
      obtain ⟨xv, xo, xa⟩ := xe
      simp only at hla hle
      rcases hrow.lay with ⟨hv0, _⟩ | ⟨b1, cap1, hv1, _, l1⟩
      · injection hv0 with _ hz; omega
      rw [← HN.out] at hv1
      injection hv1 with e1 _ e2
      subst e1 e2
      obtain ⟨x0, x1, x2⟩ := l1.get HX.out
      simp only [eI] at x0 x1 x2
      generalize lastV D k = la at *
      have hgv : ¬ xv < la := by omega
      have hgw : ¬ xv > ver := by omega
      obtain ⟨ag, cg, hvg⟩ := ownsRow_slice (hom.oc.row 6)
      rw [up_same, up_same] at hvg
      obtain ⟨ng, hng⟩ : ∃ ng, ng = (L 6 ++ acts (D.take k)).length := ⟨_, rfl⟩
      rw [← hng] at hvg
      subst hvg
      have hngl : ng ≤ 4000 := by
        have h1 := HD.out.2.2
        have h2 : (acts (D.take k)).length ≤ D.length := by simp [acts]; omega
        rw [hng, List.length_append]; omega
      have b1' := (Below.refl wr.heap.size wr).alloc (Nat.le_refl _) (.cells #[.int .i64 xv, .int .i64 xo, .int .i64 xa] 33)
      have b2 := b1'.alloc (by simp) (.cells #[.int .i64 xa] 3)
      have hom2 := hom.below b2
      have cg1 : (wr.alloc (.cells #[.int .i64 xv, .int .i64 xo, .int .i64 xa] 33)).cell? ⟨gb, 0, none⟩ = some (.slice ag ng cg) := by
        have h1 := (hom.below b1').bg.cell 0
        rw [up_same] at h1
        exact h1
      have ho2 := hom2.oc.row 6
      rw [up_same, up_same, ← hng] at ho2
      have hx2 := Box.new (wr.alloc (.cells #[.int .i64 xv, .int .i64 xo, .int .i64 xa] 33)) #[.int .i64 xa] 3
      rw [show (wr.alloc (.cells #[.int .i64 xv, .int .i64 xo, .int .i64 xa] 33)).heap.size = wr.heap.size + 1 by simp] at hx2
      have h2s : w0.heap.size ≤ wr.heap.size + 1 + 1 := by have := hom.oc.bel.size; omega
      have hrow2 : IsRow eI 33 ((wr.alloc (.cells #[.int .i64 xv, .int .i64 xo, .int .i64 xa] 33)).alloc (.cells #[.int .i64 xa] 3)) u.heap.size (.slice (some ⟨b1, 0, none⟩) nd cr) D := hrow.chg (S := fun _ => False) (Chg.ofBelow b2) (fun _ _ x => x)
      have hlx2 := (l1.at' (b2.block b1 l1.lt)).box
      obtain ⟨i0, hi0, hz0, hz1, hz2⟩ := info_parts info3'
      have HG := hid (And.intro hom2 (And.intro ho2 (And.intro hrow2 hlx2)))
      have HX2 := hid hx2
      have HNG := hid hng
      clear hom hrow l1 hrel hk hom2 ho2 hrow2 hlx2 b1' b2 hx2 hng
      go_wp2_with (at_builtin; refine wpList_append_own_at _ rfl _ _ 52 rfl w0.heap.size 3 i0 (.int .i64 0) 1 8 Try.underlying52 hi0 hz0 hz1 hz2 rfl (by decide) _ ng _ rfl HG.out.2.1 ⟨wr.heap.size + 1, 0, none⟩ 1 1 [.int .i64 xa] rfl rfl (World.news_of_block HX2.out) ?c2 ?c3 ?c4 ?c5 ?_)
      case c2 => first | rfl | (intro u hu; simp at hu; subst hu; rfl)
      case c3 => unfold maxLen; omega
      case c4 => omega
      intro v' w4 hown4 hgrow _ hat
      obtain ⟨av', cv', rfl⟩ := ownsRow_slice hown4
      have hl4 : L 6 ++ acts (D.take (k + 1)) = (L 6 ++ acts (D.take k)) ++ [xa] := by
        rw [List.take_succ_eq_append_getElem hkD, acts, List.map_append, ← acts]
        have := HX.out
        rw [List.getElem?_eq_getElem hkD] at this
        injection this with this
        rw [this]; simp
      have hr4 : w4.ownsRow w0.heap.size 3 1 (.slice av' (ng + 1) cv') (L 6 ++ acts (D.take (k + 1))).length (ics (L 6 ++ acts (D.take (k + 1)))) := by
        rw [hl4, List.length_append, ← HNG.out, ics, List.map_append]
        exact hown4
      have hg4 := HG.out.1.got (by rw [up_same]; exact hgrow) hr4 (by
        rw [up_same]
        rcases hat with hat | hat
        · exact .inl hat
        · exact .inr (fun k hk => by rw [hat] at hk; injection hk with hk; simp; omega))
      rw [up_up, up_up] at hg4
      have hgc := Chg.ofGrown hgrow
      have hrow4 := HG.out.2.2.1.chg hgc (fun b e e' => by
        obtain ⟨cs, hx⟩ := ownsRow_box HG.out.2.1 b e'
        obtain ⟨cs', hx'⟩ := HG.out.2.2.2
        injection e with e
        subst e
        exact Box.ne hx hx' (by decide) rfl)
      have hrow5 := hrow4.chg ((Chg.refl (fun k => k = gb) w4).setCell gb 0 (.slice av' (ng + 1) cv') (fun _ => rfl)) (fun b e e' => by
        obtain ⟨cs', hx'⟩ := HG.out.2.2.2
        injection e with e
        subst e
        have hx4 := hx'.chg hgc (fun e' => by
          obtain ⟨cs, hx⟩ := ownsRow_box HG.out.2.1 _ e'
          exact Box.ne hx hx' (by decide) rfl)
        exact Box.ne hx4 hg4.2 (by decide) e')
      have d1 : w4.cell? ⟨gb, 0, none⟩ = some (.slice ag ng cg) := by
        have := hg4.2.cell 0
        rw [up_same] at this
        exact this
      have d2 : w4.frozen? ⟨gb, 0, none⟩ = false := hg4.2.frozen 0
      have HF := hid (And.intro hg4.1 hrow5)
      clear hg4 hrow4 hrow5 hr4 hgc hown4 hgrow hat hl4 cg1 x0 x1 x2
      go_wp2_with fail
      go_roundw
      case rel => exact ⟨k + 1, by omega, by simp, by rw [HLV.out], ⟨_, HF.out.1⟩, HF.out.2⟩
      case measure => simp only [intOf]; omega
    · have hki : ¬ (k : Int) < (nd : Int) := by omega
      obtain rfl : k = nd := by omega
      obtain ⟨⟨vg, hom⟩, hrow⟩ := hrel.out
      rw [HN.out, List.take_length] at hom
      have HF := hid hom
      clear hrel hom hrow hk
      go_wp2_with fail
      go_ret
      exact ⟨rfl, vg, HF.out⟩
end Go.Proofs.Ytlbnilendcelkaa
