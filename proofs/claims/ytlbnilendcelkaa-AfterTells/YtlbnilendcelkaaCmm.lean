/-
  Commit.
-/
import Derived.Test.YtlbnilendcelkaaBck
import Derived.Test.YtlbnilendcelkaaLate
import Derived.Test.YtlbnilendcelkaaLat
namespace Go.Proofs.Ytlbnilendcelkaa
open Go.RowKit
namespace I
theorem base_of {X : Enc (En Int)} {t : TypeId} {w : World} {B B' : Nat} {v : Value} {l : List (En Int)} (h : IsRow X t w B v l) (hb : B' ≤ B) : IsRow X t w B' v l := by
  rcases h.lay with ⟨rfl, rfl⟩ | ⟨g, cap, rfl, hB, hl⟩
  · exact IsRow.nil _ _ _ _
  · exact hl.row (by omega)
/-- while what was picked out becomes due -/
def CmR (w u : World) (B q : Nat) (W D E : List (En Int)) (v : Int) (F : Nat → Prop) (vw vo : Value) (k : Nat) : Prop := ∃ vd F', (∀ i, F' i → (F i ∨ w.heap.size ≤ i) ∧ vo.ownBlock ≠ some i) ∧ IsQ eI 49 33 u B q ⟨W, D ++ (E.take k).map (fun e => { e with ver := v })⟩ F' vw vd ∧ Chg F w u ∧ IsRow eI 33 u w.heap.size vo E
set_option maxRecDepth 100000 in
set_option maxHeartbeats 8000000 in
theorem commit_at {w : World} {B q : Nat} {S : QS Int} {F : Nat → Prop} (h0 : HasQ eI 49 33 w B q S F) (hsm : S.wait.length + S.due.length ≤ 1024) (o v : Int) :
    Calls Try.prog 9 #[ptr q, .int .i64 o, .int .i64 v] w fun r w' => r = .returned (.tuple #[.int .i64 (S.commit o v).1, .int .i64 (S.commit o v).2.1]) ∧ ToQ eI 49 33 w B q (S.commit o v).2.2 F w' := by
  obtain ⟨vw, vd, h, hri⟩ := h0
  have bw := (Below.refl w.heap.size w).alloc (Nat.le_refl _) (.cells #[.int .i64 o] 3)
  have h1 := h.below bw
  have cm := isMade_at h1.box
  by_cases hbad : o < 1 ∨ v < 0
  · have e : S.commit o v = (0, 2, S) := by unfold QS.commit; rw [if_pos hbad]
    rw [e]
    have HF := hid (ToQ.same (X := eI) (tQ := 49) (tE := 33) ⟨vw, vd, h, hri⟩ bw)
    clear h h1 hri bw e
    unfold ptr at *
    by_cases ho : o < 1
    · clear hbad
      go_enter Try.func9, Try.ntmps9
      go_wp2_with (go_at_call 24; refine cm.mono ?_; rintro e w' ⟨rfl, rfl⟩)
      go_ret2
      exact ⟨rfl, HF.out⟩
    · have hv : v < 0 := by omega
      clear hbad
      go_enter Try.func9, Try.ntmps9
      go_wp2_with (go_at_call 24; refine cm.mono ?_; rintro e w' ⟨rfl, rfl⟩)
      go_ret2
      exact ⟨rfl, HF.out⟩
  · have ho : ¬ o < 1 := fun h => hbad (.inl h)
    have hv : ¬ v < 0 := fun h => hbad (.inr h)
    have e : S.commit o v = (((S.mine o).length : Int), 0, ⟨S.wait.filter (fun e => !decide (e.own = o)), mrg En.ver S.due ((S.mine o).map fun e => { e with ver := v })⟩) := by unfold QS.commit; rw [if_neg hbad]
    rw [e]
    clear e hbad
    obtain ⟨i0, hi0, hz0, hz1, hz2⟩ := info_parts infoI
    have bx := Box.new w #[.int .i64 o] 3
    obtain ⟨w1, hw1⟩ : ∃ w1, w1 = w.alloc (.cells #[.int .i64 o] 3) := ⟨_, rfl⟩
    have hfq := h.fB
    have hsz : w1.heap.size = w.heap.size + 1 := by rw [hw1]; simp
    rw [← hw1] at bw h1 bx
    have cp := pickW_at h1 26 #[ptr w.heap.size] enters26 (mnq S.wait o) (fun _ => [(w.heap.size, #[.int .i64 o], 3)]) (fun _ => False)
      (fun x hx => by simp at hx; subst hx; exact bx) (fun k x hx => by simp at hx; subst hx; exact ⟨fun hf => by have := (hfq _ hf).2; omega, by show w.heap.size < _; omega⟩) (fun k hk => hk.elim)
      (fun k hk u hu => (mine_at S.wait[k] (hu _ (List.mem_singleton_self _))).mono (fun r u' ⟨e1, e2, e3⟩ => ⟨by rw [e1]; simp [mnq, hk], e2, e3⟩))
    have e1 : sel (mnq S.wait o) S.wait = S.wait.filter (fun e : En Int => decide (e.own = o)) := sel_filter (fun e : En Int => decide (e.own = o)) _ _ (fun k hk => by simp [mnq, hk])
    have e2 : sel (fun k => !mnq S.wait o k) S.wait = S.wait.filter (fun e : En Int => !decide (e.own = o)) := sel_filter (fun e : En Int => !decide (e.own = o)) _ _ (fun k hk => by simp [mnq, hk])
    have e1' : S.wait.filter (fun e : En Int => decide (e.own = o)) = S.mine o := rfl
    have htwo := sel_two (mnq S.wait o) S.wait
    rw [e1, e2, e1'] at htwo
    rw [e1, e2, e1'] at cp
    obtain ⟨W, hW⟩ : ∃ W, W = S.wait.filter (fun e : En Int => !decide (e.own = o)) := ⟨_, rfl⟩
    obtain ⟨E, hE⟩ : ∃ E, E = S.mine o := ⟨_, rfl⟩
    obtain ⟨D, hD⟩ : ∃ D, D = S.due := ⟨_, rfl⟩
    rw [← hW, ← hE, ← hD] at cp ⊢
    rw [← hW, ← hE] at htwo
    rw [← hD] at hsm hri
    obtain ⟨n, hn⟩ : ∃ n, n = E.length := ⟨_, rfl⟩
    have HN := hid hn
    have HL : Hid (n + W.length + D.length ≤ 1024 ∧ n + W.length + D.length ≤ 1024) := by unfold Hid; omega
    have hn2 : n ≤ 1024 := by omega
    have HB1 : Hid (B ≤ w.heap.size ∧ w.heap.size ≤ w1.heap.size) := ⟨by have := hfq q h.fq; omega, by omega⟩
    have HRI := hid hri
    have HFQ := hid hfq
    have HBW := hid bw
    rw [← hn]
    have hmf : ∀ (fn : Fn) (first cap : Array Value) (u : World), (Instr.makeFunc fn first cap).run Try.prog u = .ok (.func fn first cap) u := fun _ _ _ _ => rfl
    subst hw1
    clear h h1 bx hfq hsz e1 e2 e1' htwo hsm hri hW hE hD hn bw
    have cp2 : Calls Try.prog 25 #[.pointer (some ⟨q, 1, none⟩), .func (.func 26) #[] #[ptr w.heap.size]] (w.alloc (.cells #[.int .i64 o] 3)) fun r w2 => ∃ ao co vw', r = .returned (.slice ao n co) ∧ CmR w w2 B q W D E v F vw' (.slice ao n co) 0 := Calls.mono cp (by
      rintro r w2 ⟨vo, vw', rfl, g1, g2, g3⟩
      obtain ⟨ao, co, hvo⟩ : ∃ ao co, vo = .slice ao n co := by
        obtain ⟨a, c, hh⟩ := ownsRow_slice g1
        exact ⟨a, c, by rw [HN.out]; exact hh⟩
      subst hvo
      have hcF : Chg F w w2 := (Chg.ofBelow (S := F) HBW.out).trans g3 (fun i hi e => e.elim (fun x => x.elim) id)
      refine ⟨ao, co, vw', rfl, vd, F, fun i hi => ⟨.inl hi, fun e => ?_⟩, by simpa using g2, hcF, base_of g1 HB1.out.2⟩
      have := (g1.lt i e).2
      have := (HFQ.out i hi).2
      have := HB1.out.2
      omega)
    clear cp HBW HFQ
    unfold ptr at *
    go_enter Try.func9, Try.ntmps9
    go_wp2_with (first | (go_at_call 24; refine cm.mono ?_; rintro e w' ⟨rfl, rfl⟩) | (go_at_call 25; refine cp2.mono ?_; rintro e w2 ⟨ao, co, vw', rfl, hR0⟩; have HR0 := hid hR0; clear hR0 cp2))
    go_loopw [29] (fun t u => ∃ k : Nat, k ≤ n ∧ t = .int .i64 (k : Int) ∧ Hid (CmR w u B q W D E v F vw' (.slice ao n co) k)) (fun t _ => n - (intOf t).toNat)
    case atStart => exact ⟨0, Nat.zero_le _, by simp, HR0.out⟩
    case round =>
      clear HR0
      obtain ⟨k, hk, rfl, hrel⟩ := hrel
      by_cases hlt : k < n
      · have hki : (k : Int) < (n : Int) := by omega
        obtain ⟨vd1, F1, hF1, hQ, hC, hE⟩ := hrel.out
        have hkE : k < E.length := by have := HN.out; omega
        obtain ⟨ad, nd, cd, hvd1, hnd⟩ : ∃ ad nd cd, vd1 = .slice ad nd cd ∧ nd = D.length + k := by
          obtain ⟨a, c, hh⟩ := ownsRow_slice hQ.rd
          refine ⟨a, _, c, hh, by simp; omega⟩
        have hndn : nd ≤ 1024 := by have := HL.out.2; omega
        rcases hE.lay with ⟨he1, he2⟩ | ⟨ge, cape, he1, hBe, hle⟩
        · subst he2; simp at hkE
        injection he1 with he3 he4 he5
        subst he3
        have hget : E[k]? = some E[k] := by simp [hkE]
        have HG := hid hget
        obtain ⟨d0, d1, d2⟩ := hle.get hget
        generalize E[k] = x at *
        obtain ⟨xv, xo, xa⟩ := x
        simp only [eI] at d0 d1 d2
        have hqE := hQ.below ((Below.refl wr.heap.size wr).alloc (Nat.le_refl _) (.cells #[.int .i64 v, .int .i64 xo, .int .i64 xa] 33))
        have hbE := Box.new wr #[.int .i64 v, .int .i64 xo, .int .i64 xa] 33
        have hchE := (Chg.refl (fun _ => False) wr).alloc (.cells #[.int .i64 v, .int .i64 xo, .int .i64 xa] 33)
        have hszE : (wr.alloc (.cells #[.int .i64 v, .int .i64 xo, .int .i64 xa] 33)).heap.size = wr.heap.size + 1 := by simp
        obtain ⟨wy, hwy⟩ : ∃ wy, wy = wr.alloc (.cells #[.int .i64 v, .int .i64 xo, .int .i64 xa] 33) := ⟨_, rfl⟩
        obtain ⟨eb, heb⟩ : ∃ eb, eb = wr.heap.size := ⟨_, rfl⟩
        rw [← hwy] at hqE hbE hchE hszE
        rw [← heb] at hbE hszE
        have HY := hid (And.intro hqE (And.intro hbE hchE))
        have HRL := hid (And.intro hF1 (And.intro hC hE))
        have HND := hid (And.intro hvd1 hnd)
        have HYE := hid (And.intro hwy heb)
        have hQb : Hid (∀ i, vd1.ownBlock = some i → i < wr.heap.size) := fun i hi => (hQ.rd.lt i hi).1
        have HSZ := hid hszE
        clear hszE
        clear hqE hbE hchE hrel hF1 hQ hC hE hget hle hvd1 hnd hwy heb hBe he4 he5 hkE
        go_wp2_with fail
        rw [← HYE.out.1, ← HYE.out.2]
        have HCA : Hid (∀ u, Below wy.heap.size wy u → ∀ z ∈ [((⟨q, 2, none⟩ : Addr), (.slice ad nd cd : Value)), (⟨eb, 0, none⟩, .int .i64 v), (⟨eb, 1, none⟩, .int .i64 xo), (⟨eb, 2, none⟩, .int .i64 xa)], u.cell? z.1 = some z.2) := fun u hb z hz => by
          obtain ⟨y1, y2, y3⟩ := HY.out
          have b1 := y1.box.below hb y1.box.lt
          have b2 := y2.below hb y2.lt
          simp at hz
          rcases hz with rfl | rfl | rfl | rfl
          · exact (b1.cell 2).trans (by rw [HND.out.1]; rfl)
          · exact b2.cell 0
          · exact b2.cell 1
          · exact b2.cell 2
        have HCS : Hid (∀ z ∈ [((⟨q, 2, none⟩ : Addr), (.slice ad nd cd : Value)), (⟨eb, 0, none⟩, .int .i64 v), (⟨eb, 1, none⟩, .int .i64 xo), (⟨eb, 2, none⟩, .int .i64 xa)], wy.drew.cell? z.1 = some z.2) := HCA.out _ ⟨rfl, rfl, rfl, Nat.le_refl _, fun _ _ => rfl⟩
        have hb6 : Below wy.heap.size wy ((wy.alloc (.cells #[.int .i64 v, .int .i64 xo, .int .i64 xa] 33)).drew) := ((Below.refl wy.heap.size wy).alloc (Nat.le_refl _) (.cells #[.int .i64 v, .int .i64 xo, .int .i64 xa] 33)).drew
        have HC6 : Hid (∀ z ∈ [((⟨q, 2, none⟩ : Addr), (.slice ad nd cd : Value)), (⟨eb, 0, none⟩, .int .i64 v), (⟨eb, 1, none⟩, .int .i64 xo), (⟨eb, 2, none⟩, .int .i64 xa)], ((wy.alloc (.cells #[.int .i64 v, .int .i64 xo, .int .i64 xa] 33)).drew).cell? z.1 = some z.2) := HCA.out _ hb6
        have hq6 := HY.out.1.below hb6
        have HR7 : Hid (((wy.alloc (.cells #[.int .i64 v, .int .i64 xo, .int .i64 xa] 33)).drew).ownsRow B 33 3 (.slice ad nd cd) nd (flat eI (D ++ (E.take k).map (fun e => { e with ver := v }))) ∧ ((wy.alloc (.cells #[.int .i64 v, .int .i64 xo, .int .i64 xa] 33)).drew).heap[wy.heap.size]? = some (.cells #[.int .i64 v, .int .i64 xo, .int .i64 xa] 33 (0, 0)) ∧ B ≤ ((wy.alloc (.cells #[.int .i64 v, .int .i64 xo, .int .i64 xa] 33)).drew).heap.size) := by
          have hr := hq6.rd
          have hlk : (D ++ (E.take k).map (fun e : En Int => { e with ver := v })).length = nd := by have := HN.out; have := HND.out.2; simp; omega
          unfold IsRow at hr
          rw [hlk, HND.out.1] at hr
          exact ⟨hr, Box.new wy #[.int .i64 v, .int .i64 xo, .int .i64 xa] 33, by have := HB1.out.1; have := HRL.out.2.1.size; have := HY.out.2.2.size; have := hb6.size; omega⟩
        have HPUT : Hid (∀ gg gc w4, w4.ownsRow B 33 3 (.slice (some ⟨gg, 0, none⟩) (nd + 1) gc) (nd + 1) (flat eI (D ++ (E.take k).map (fun e => { e with ver := v })) ++ [.int .i64 v, .int .i64 xo, .int .i64 xa]) → ((wy.alloc (.cells #[.int .i64 v, .int .i64 xo, .int .i64 xa] 33)).drew).grownBy w4 (Value.slice ad nd cd).ownBlock → ((Value.slice ad nd cd).ownBlock = some gg ∨ gg = ((wy.alloc (.cells #[.int .i64 v, .int .i64 xo, .int .i64 xa] 33)).drew).heap.size) →
            Hid (∀ z ∈ [((⟨q, 2, none⟩ : Addr), (.slice ad nd cd : Value)), (⟨eb, 0, none⟩, .int .i64 v), (⟨eb, 1, none⟩, .int .i64 xo), (⟨eb, 2, none⟩, .int .i64 xa)], w4.cell? z.1 = some z.2) ∧ Hid (w4.frozen? ⟨q, 2, none⟩ = false ∧ CmR w (w4.setCell ⟨q, 2, none⟩ (.slice (some ⟨gg, 0, none⟩) (nd + 1) gc)) B q W D E v F vw' (.slice (some ⟨ge, 0, none⟩) n co) (k + 1))) := fun gg gc w4 hown4 hgrow hat => by
          have hlk : (D ++ (E.take k).map (fun e : En Int => { e with ver := v })).length = nd := by have := HN.out; have := HND.out.2; simp; omega
          have hgc := Chg.ofGrown hgrow
          have hv1 := HND.out.1
          rw [← hv1] at hgc
          have hq6' := hq6
          have hnq : vd1.ownBlock ≠ some q := fun e => (hq6.fd q e).2 rfl
          have hbq := hq6.box.chg hgc hnq
          have hbe := (HY.out.2.1.below hb6 HY.out.2.1.lt).chg hgc (fun e => by
            have h9 := (HRL.out.1 eb (hq6.fd eb e).1).1
            have h8 := (hq6.rd.lt eb e).1
            have h7 := (hQb.out eb e)
            have := HYE.out.2
            omega)
          have htk : (E.take (k + 1)).map (fun e : En Int => { e with ver := v }) = (E.take k).map (fun e => { e with ver := v }) ++ [⟨v, xo, xa⟩] := by
            rw [List.take_add_one, HG.out]; simp
          have hr4 : IsRow eI 33 w4 B (.slice (some ⟨gg, 0, none⟩) (nd + 1) gc) (D ++ (E.take (k + 1)).map (fun e => { e with ver := v })) := by
            unfold IsRow
            rw [htk, ← List.append_assoc, List.length_append, hlk, List.length_singleton, flat_app]
            exact hown4
          have hb6s : wr.heap.size ≤ ((wy.alloc (.cells #[.int .i64 v, .int .i64 xo, .int .i64 xa] 33)).drew).heap.size := by have := HY.out.2.2.size; have := hb6.size; omega
          have hput := hq6.putD (D := D ++ (E.take (k + 1)).map (fun e => { e with ver := v })) (v' := .slice (some ⟨gg, 0, none⟩) (nd + 1) gc) hgc hr4 (by
            rcases hat with hat | hat
            · exact .inl (by rw [hv1]; exact hat.symm ▸ rfl)
            · exact .inr (fun i hi => by
              have hi : gg = i := by simpa [Value.ownBlock] using hi
              omega)) (by have h5 := HL.out.2; have := HN.out; rw [htk, ← List.append_assoc, List.length_append, hlk]; have := HND.out.2; simp; omega)
          refine ⟨fun z hz => ?_, hbq.frozen 2, _, _, fun i hi => ?_, hput.1, ?_, ?_⟩
          · simp at hz
            rcases hz with rfl | rfl | rfl | rfl
            · exact (hbq.cell 2).trans (by rw [hv1]; rfl)
            · exact hbe.cell 0
            · exact hbe.cell 1
            · exact hbe.cell 2
          · rcases hi with hi | hi
            · exact HRL.out.1 i hi
            · rcases hat with hat | hat
              · exact HRL.out.1 i (hq6.fd i (by rw [hv1]; rw [hat]; exact hi)).1
              · have hi : gg = i := by simpa [Value.ownBlock] using hi
                have h1 := HRL.out.2.1.size
                refine ⟨.inr (by omega), fun e => ?_⟩
                have h2 := (HRL.out.2.2.lt i e).1
                omega
          · have hc1 := (HRL.out.2.1.trans HY.out.2.2 (fun i _ e => e.elim)).trans (Chg.ofBelow (S := fun _ => False) hb6) (fun i _ e => e.elim)
            refine hc1.trans hput.2 (fun i hi e => ?_)
            rcases (HRL.out.1 i e).1 with h3 | h3
            · exact h3
            · omega
          · have hE2 := (HRL.out.2.2.chg HY.out.2.2 (fun _ _ x => x)).chg (Chg.ofBelow (S := fun _ => False) hb6) (fun _ _ x => x)
            refine hE2.chg hput.2 (fun b hb e => (HRL.out.1 b e).2 hb)
        clear hb6 hq6
        refine wp_region_any (by kernel_rfl) ?_
        refine wpAny_take (i := 0) (v := ?_) rfl (by kernel_rfl) (by kernel_rfl) (by kernel_rfl) (fun _ _ _ h => h) (Or.inl ⟨by rfl, ?_⟩) ?_
        rotate_left
        · intro u
          go_simp
          with_reducible rfl
        simp only [Act.put, List.setIfInBounds_toArray, List.set_cons_zero, List.set_cons_succ, List.getElem_toArray, List.getElem_cons_zero]
        refine wpAny_take (i := 1) (v := ?_) rfl (by kernel_rfl) (by kernel_rfl) (by kernel_rfl) (fun _ _ _ h => h) (Or.inl ⟨by rfl, ?_⟩) ?_
        rotate_left
        · intro u
          go_simp
          with_reducible rfl
        simp only [Act.put, List.setIfInBounds_toArray, List.set_cons_zero, List.set_cons_succ, List.getElem_toArray, List.getElem_cons_zero, List.getElem_cons_succ]
        refine wpAny_take (i := 2) (v := ?_) rfl (by kernel_rfl) (by kernel_rfl) (by kernel_rfl) (fun _ _ _ h => h) (Or.inl ⟨by rfl, ?_⟩) ?_
        rotate_left
        · intro u
          go_simp
          with_reducible rfl
        simp only [Act.put, List.setIfInBounds_toArray, List.set_cons_zero, List.set_cons_succ, List.getElem_toArray, List.getElem_cons_zero, List.getElem_cons_succ]
        refine wpAny_take (i := 3) (v := ?_) rfl (by kernel_rfl) (by kernel_rfl) (by kernel_rfl) (fun _ _ _ h => h) (Or.inl ⟨by rfl, ?_⟩) ?_
        rotate_left
        · intro u
          go_simp
          with_reducible rfl
        simp only [Act.put, List.setIfInBounds_toArray, List.set_cons_zero, List.set_cons_succ, List.getElem_toArray, List.getElem_cons_zero, List.getElem_cons_succ]
        refine wpAny_of_E (C := SlotsCells [(38, .pointer (some ⟨q, 2, none⟩)), (10, .pointer (some ⟨eb, 0, none⟩))] [(⟨q, 2, none⟩, .slice ad nd cd), (⟨eb, 0, none⟩, .int .i64 v), (⟨eb, 1, none⟩, .int .i64 xo), (⟨eb, 2, none⟩, .int .i64 xa)]) (late := [10]) _ _ _ _ ?_
        refine wpAnyE_take (i := 4) (v := .slice ad nd cd) rfl (by kernel_rfl) (by kernel_rfl) (by kernel_rfl) (by kernel_rfl) (by kernel_rfl) (by kernel_rfl) (fun _ _ _ h => h) ?_ (fun fr u h => (SlotsCells.put 39 _ (by rfl)).1 h) (fun fr u h => (SlotsCells.put 39 _ (by rfl)).2 h) ?_ ?_
        · intro fr u hh
          have e1 := hh.val (s := 38) (v := .pointer (some ⟨q, 2, none⟩)) (by simp)
          have d0 := hh.2 (⟨q, 2, none⟩, .slice ad nd cd) (by simp)
          exact ⟨rfl, by simp [execOp, e1, go_sem, d0]⟩
        · exact ⟨fun q hq => by simp at hq; rcases hq with rfl | rfl <;> rfl, HCS.out⟩
        simp only [Act.put, List.setIfInBounds_toArray, List.set_cons_zero, List.set_cons_succ, List.getElem_toArray, List.getElem_cons_zero, List.getElem_cons_succ]
        refine wpAnyE_take (i := 5) (v := .agg #[.int .i64 v, .int .i64 xo, .int .i64 xa]) rfl (by kernel_rfl) (by kernel_rfl) (by kernel_rfl) (by kernel_rfl) (by kernel_rfl) (by kernel_rfl) (fun _ _ _ h => h) ?_ (fun fr u h => (SlotsCells.put 40 _ (by rfl)).1 h) (fun fr u h => (SlotsCells.put 40 _ (by rfl)).2 h) ?_ ?_
        · intro fr u hh
          have e1 := hh.val (s := 10) (v := .pointer (some ⟨eb, 0, none⟩)) (by simp)
          have d0 := hh.2 (⟨eb, 0, none⟩, .int .i64 v) (by simp)
          have d1 := hh.2 (⟨eb, 1, none⟩, .int .i64 xo) (by simp)
          have d2 := hh.2 (⟨eb, 2, none⟩, .int .i64 xa) (by simp)
          exact ⟨rfl, by simp [execOp, e1, go_sem, d0, d1, d2]⟩
        · exact ⟨fun q hq => by simp at hq; rcases hq with rfl | rfl <;> rfl, HCS.out⟩
        simp only [Act.put, List.setIfInBounds_toArray, List.set_cons_zero, List.set_cons_succ, List.getElem_toArray, List.getElem_cons_zero, List.getElem_cons_succ]
        refine wpAnyE_some (rs := [6]) (by kernel_rfl) (by simp) (fun i hi => ?_)
        simp only [List.mem_cons, List.not_mem_nil, or_false] at hi
        subst hi
        refine wpOp_step rfl (fun Kc hKc => ?_)
        go_simp
        refine hKc _ _ ⟨.inr (.inr ⟨fun q hq => by simp at hq; rcases hq with rfl | rfl <;> rfl, HC6.out⟩), ?_⟩
        clear hKc Kc
        refine wpAnyE_some (rs := [7]) (by kernel_rfl) (by simp) (fun i hi => ?_)
        simp only [List.mem_cons, List.not_mem_nil, or_false] at hi
        subst hi
        refine wpOp_step rfl (fun Kc hKc => ?_)
        rw [if_pos (by rfl)]
        refine wp_append_lies _ _ _ 28 rfl B 33 i0 (.agg #[.int .i64 0, .int .i64 0, .int .i64 0]) 3 24 Try.underlying28 hi0 hz0 hz1 hz2 rfl (by decide) (.slice ad nd cd) nd _ rfl HR7.out.1 ⟨wy.heap.size, 0, none⟩ 1 1 [.int .i64 v, .int .i64 xo, .int .i64 xa] rfl rfl (World.news_of_block HR7.out.2.1) ?c2 (by decide) ?c3 ?c4 HR7.out.2.2 _ rfl ?_
        case c2 => intro u hu; simp at hu; rcases hu with rfl | rfl | rfl <;> rfl
        case c3 => unfold maxLen; omega
        case c4 => omega
        intro gg gc w4 hown4 hgrow hat hlt4
        obtain ⟨HP1, HP2⟩ := HPUT.out gg gc w4 hown4 hgrow hat
        refine hKc _ _ ⟨.inr (.inr ⟨fun q hq => by simp at hq; rcases hq with rfl | rfl <;> rfl, HP1.out⟩), ?_⟩
        clear hKc Kc
        have d1 := HP1.out (⟨q, 2, none⟩, .slice ad nd cd) (by simp)
        have d2 := HP2.out.1
        clear hown4 hgrow hat hlt4
        refine wpAnyE_some (rs := [8]) (by kernel_rfl) (by simp) (fun i hi => ?_)
        simp only [List.mem_cons, List.not_mem_nil, or_false] at hi
        subst hi
        refine wpOp_step rfl (fun Kc hKc => ?_)
        go_simp
        refine hKc _ _ ⟨.inr (.inr ⟨fun q hq => by simp at hq; rcases hq with rfl | rfl <;> rfl, HP1.out⟩), ?_⟩
        clear hKc Kc
        refine wpAnyE_some (rs := [9]) (by kernel_rfl) (by simp) (fun i hi => ?_)
        simp only [List.mem_cons, List.not_mem_nil, or_false] at hi
        subst hi
        refine wpOp_step rfl (fun Kc hKc => ?_)
        go_simp
        refine hKc _ _ ⟨.inr (.inr ⟨fun q hq => by simp at hq; rcases hq with rfl | rfl <;> rfl, HP1.out⟩), ?_⟩
        clear hKc Kc
        refine wpAnyE_some (rs := [10]) (by kernel_rfl) (by simp) (fun i hi => ?_)
        simp only [List.mem_cons, List.not_mem_nil, or_false] at hi
        subst hi
        refine wpOp_step rfl (fun Kc hKc => ?_)
        go_simp
        refine hKc _ _ ⟨.inr (.inl rfl), ?_⟩
        clear hKc Kc
        refine wpAnyE_done (by kernel_rfl) ?_ _
        go_wp2_with fail
        go_roundw
        case rel => exact ⟨k + 1, by omega, by simp, HP2.out.2⟩
        case measure => simp only [intOf]; omega
      · have hki : ¬ (k : Int) < (n : Int) := by omega
        obtain ⟨vd1, F1, hF1, hQ, hC, hE⟩ := hrel.out
        have hkn : k = n := by omega
        have htk : E.take k = E := by rw [hkn, HN.out]; exact List.take_length
        rw [htk] at hQ
        obtain ⟨E2, hE2⟩ : ∃ E2, E2 = E.map (fun e : En Int => { e with ver := v }) := ⟨_, rfl⟩
        rw [← hE2] at hQ
        have hl2 : E2.length = n := by rw [hE2, List.length_map, HN.out]
        have c1 : wr.cell? ⟨q, 2, none⟩ = some vd1 := hQ.box.cell 2
        have cs := sort_at (D ++ E2) hQ.rd (by have := HL.out.1; simp only [List.length_append]; omega)
        have hrE : Rise En.ver E2 := by
          rw [hE2]
          refine List.pairwise_map.2 (List.pairwise_of_forall (fun a b => ?_))
          exact Int.le_refl _
        have HFIN : Hid (∀ u, (∃ L, Stb En.ver (D ++ E2) L ∧ IsRow eI 33 u B vd1 L ∧ Chg (fun k => vd1.ownBlock = some k) wr u) → ToQ eI 49 33 w B q ⟨W, mrg En.ver D (E.map (fun e : En Int => { e with ver := v }))⟩ F u) := fun u ⟨L, g1, g2, g3⟩ => by
          rw [← hE2]
          have hm : L = mrg En.ver D E2 := g1.uniq _ ((Stb.same En.ver HRI.out).mrg En.ver (Stb.same En.ver hrE))
          subst hm
          have hnq : vd1.ownBlock ≠ some q := fun e => (hQ.fd q e).2 rfl
          refine ⟨⟨F1, fun i hi => (hF1 i hi).1, vw', vd1, ⟨hQ.fq, fun i hi => ⟨(hQ.fB i hi).1, Nat.lt_of_lt_of_le (hQ.fB i hi).2 g3.size⟩, hQ.box.chg g3 hnq, hQ.rw.chg g3 (fun b e e' => hQ.ne b e e'), g2, hQ.fw, hQ.fd, hQ.ne, by have := HL.out.2; simp only [mrg_len]; omega⟩, rise_mrg _ _ _ HRI.out hrE⟩, ?_⟩
          refine hC.trans g3 (fun i hi e => ?_)
          rcases (hF1 i (hQ.fd i e).1).1 with h | h
          · exact h
          · omega
        obtain ⟨ad, nd, cd, hvd1⟩ : ∃ ad nd cd, vd1 = .slice ad nd cd := by
          obtain ⟨a, c, hh⟩ := ownsRow_slice hQ.rd
          exact ⟨a, _, c, hh⟩
        subst hvd1
        have HCS := hid cs
        clear hF1 hQ hC hE hkn htk hl2 cs hrE hrel hE2
        go_wp2_with (go_at_call 27; refine HCS.out.mono ?_; rintro _ w5 ⟨rfl, hL5⟩; have hT := HFIN.out _ hL5; have HT := hid hT; clear hT hL5)
        go_ret2
        exact ⟨rfl, HT.out⟩
end I
namespace S
theorem base_of {X : Enc (En ByteArray)} {t : TypeId} {w : World} {B B' : Nat} {v : Value} {l : List (En ByteArray)} (h : IsRow X t w B v l) (hb : B' ≤ B) : IsRow X t w B' v l := by
  rcases h.lay with ⟨rfl, rfl⟩ | ⟨g, cap, rfl, hB, hl⟩
  · exact IsRow.nil _ _ _ _
  · exact hl.row (by omega)
/-- while what was picked out becomes due -/
def CmR (w u : World) (B q : Nat) (W D E : List (En ByteArray)) (v : Int) (F : Nat → Prop) (vw vo : Value) (k : Nat) : Prop := ∃ vd F', (∀ i, F' i → (F i ∨ w.heap.size ≤ i) ∧ vo.ownBlock ≠ some i) ∧ IsQ eS 70 67 u B q ⟨W, D ++ (E.take k).map (fun e => { e with ver := v })⟩ F' vw vd ∧ Chg F w u ∧ IsRow eS 67 u w.heap.size vo E
set_option maxRecDepth 100000 in
set_option maxHeartbeats 8000000 in
theorem commit_at {w : World} {B q : Nat} {S : QS ByteArray} {F : Nat → Prop} (h0 : HasQ eS 70 67 w B q S F) (hsm : S.wait.length + S.due.length < 20) (o v : Int) :
    Calls Try.prog 33 #[ptr q, .int .i64 o, .int .i64 v] w fun r w' => r = .returned (.tuple #[.int .i64 (S.commit o v).1, .int .i64 (S.commit o v).2.1]) ∧ ToQ eS 70 67 w B q (S.commit o v).2.2 F w' := by
  obtain ⟨vw, vd, h, hri⟩ := h0
  have bw := (Below.refl w.heap.size w).alloc (Nat.le_refl _) (.cells #[.int .i64 o] 3)
  have h1 := h.below bw
  have cm := isMade_at h1.box
  by_cases hbad : o < 1 ∨ v < 0
  · have e : S.commit o v = (0, 2, S) := by unfold QS.commit; rw [if_pos hbad]
    rw [e]
    have HF := hid (ToQ.same (X := eS) (tQ := 70) (tE := 67) ⟨vw, vd, h, hri⟩ bw)
    clear h h1 hri bw e
    unfold ptr at *
    by_cases ho : o < 1
    · clear hbad
      go_enter Try.func33, Try.ntmps33
      go_wp2_with (go_at_call 39; refine cm.mono ?_; rintro e w' ⟨rfl, rfl⟩)
      go_ret2
      exact ⟨rfl, HF.out⟩
    · have hv : v < 0 := by omega
      clear hbad
      go_enter Try.func33, Try.ntmps33
      go_wp2_with (go_at_call 39; refine cm.mono ?_; rintro e w' ⟨rfl, rfl⟩)
      go_ret2
      exact ⟨rfl, HF.out⟩
  · have ho : ¬ o < 1 := fun h => hbad (.inl h)
    have hv : ¬ v < 0 := fun h => hbad (.inr h)
    have e : S.commit o v = (((S.mine o).length : Int), 0, ⟨S.wait.filter (fun e => !decide (e.own = o)), mrg En.ver S.due ((S.mine o).map fun e => { e with ver := v })⟩) := by unfold QS.commit; rw [if_neg hbad]
    rw [e]
    clear e hbad
    obtain ⟨i0, hi0, hz0, hz1, hz2⟩ := info_parts infoS
    have bx := Box.new w #[.int .i64 o] 3
    obtain ⟨w1, hw1⟩ : ∃ w1, w1 = w.alloc (.cells #[.int .i64 o] 3) := ⟨_, rfl⟩
    have hfq := h.fB
    have hsz : w1.heap.size = w.heap.size + 1 := by rw [hw1]; simp
    rw [← hw1] at bw h1 bx
    have cp := pickW_at h1 41 #[ptr w.heap.size] enters26 (mnq S.wait o) (fun _ => [(w.heap.size, #[.int .i64 o], 3)]) (fun _ => False)
      (fun x hx => by simp at hx; subst hx; exact bx) (fun k x hx => by simp at hx; subst hx; exact ⟨fun hf => by have := (hfq _ hf).2; omega, by show w.heap.size < _; omega⟩) (fun k hk => hk.elim)
      (fun k hk u hu => (mine_at S.wait[k] (hu _ (List.mem_singleton_self _))).mono (fun r u' ⟨e1, e2, e3⟩ => ⟨by rw [e1]; simp [mnq, hk], e2, e3⟩))
    have e1 : sel (mnq S.wait o) S.wait = S.wait.filter (fun e : En ByteArray => decide (e.own = o)) := sel_filter (fun e : En ByteArray => decide (e.own = o)) _ _ (fun k hk => by simp [mnq, hk])
    have e2 : sel (fun k => !mnq S.wait o k) S.wait = S.wait.filter (fun e : En ByteArray => !decide (e.own = o)) := sel_filter (fun e : En ByteArray => !decide (e.own = o)) _ _ (fun k hk => by simp [mnq, hk])
    have e1' : S.wait.filter (fun e : En ByteArray => decide (e.own = o)) = S.mine o := rfl
    have htwo := sel_two (mnq S.wait o) S.wait
    rw [e1, e2, e1'] at htwo
    rw [e1, e2, e1'] at cp
    obtain ⟨W, hW⟩ : ∃ W, W = S.wait.filter (fun e : En ByteArray => !decide (e.own = o)) := ⟨_, rfl⟩
    obtain ⟨E, hE⟩ : ∃ E, E = S.mine o := ⟨_, rfl⟩
    obtain ⟨D, hD⟩ : ∃ D, D = S.due := ⟨_, rfl⟩
    rw [← hW, ← hE, ← hD] at cp ⊢
    rw [← hW, ← hE] at htwo
    rw [← hD] at hsm hri
    obtain ⟨n, hn⟩ : ∃ n, n = E.length := ⟨_, rfl⟩
    have HN := hid hn
    have HL : Hid (n + W.length + D.length < 20 ∧ n + W.length + D.length ≤ 1024) := by unfold Hid; omega
    have hn2 : n ≤ 1024 := by omega
    have HB1 : Hid (B ≤ w.heap.size ∧ w.heap.size ≤ w1.heap.size) := ⟨by have := hfq q h.fq; omega, by omega⟩
    have HRI := hid hri
    have HFQ := hid hfq
    have HBW := hid bw
    rw [← hn]
    have hmf : ∀ (fn : Fn) (first cap : Array Value) (u : World), (Instr.makeFunc fn first cap).run Try.prog u = .ok (.func fn first cap) u := fun _ _ _ _ => rfl
    subst hw1
    clear h h1 bx hfq hsz e1 e2 e1' htwo hsm hri hW hE hD hn bw
    have cp2 : Calls Try.prog 40 #[.pointer (some ⟨q, 1, none⟩), .func (.func 41) #[] #[ptr w.heap.size]] (w.alloc (.cells #[.int .i64 o] 3)) fun r w2 => ∃ ao co vw', r = .returned (.slice ao n co) ∧ CmR w w2 B q W D E v F vw' (.slice ao n co) 0 := Calls.mono cp (by
      rintro r w2 ⟨vo, vw', rfl, g1, g2, g3⟩
      obtain ⟨ao, co, hvo⟩ : ∃ ao co, vo = .slice ao n co := by
        obtain ⟨a, c, hh⟩ := ownsRow_slice g1
        exact ⟨a, c, by rw [HN.out]; exact hh⟩
      subst hvo
      have hcF : Chg F w w2 := (Chg.ofBelow (S := F) HBW.out).trans g3 (fun i hi e => e.elim (fun x => x.elim) id)
      refine ⟨ao, co, vw', rfl, vd, F, fun i hi => ⟨.inl hi, fun e => ?_⟩, by simpa using g2, hcF, base_of g1 HB1.out.2⟩
      have := (g1.lt i e).2
      have := (HFQ.out i hi).2
      have := HB1.out.2
      omega)
    clear cp HBW HFQ
    unfold ptr at *
    go_enter Try.func33, Try.ntmps33
    go_wp2_with (first | (go_at_call 39; refine cm.mono ?_; rintro e w' ⟨rfl, rfl⟩) | (go_at_call 40; refine cp2.mono ?_; rintro e w2 ⟨ao, co, vw', rfl, hR0⟩; have HR0 := hid hR0; clear hR0 cp2))
    go_loopw [29] (fun t u => ∃ k : Nat, k ≤ n ∧ t = .int .i64 (k : Int) ∧ Hid (CmR w u B q W D E v F vw' (.slice ao n co) k)) (fun t _ => n - (intOf t).toNat)
    case atStart => exact ⟨0, Nat.zero_le _, by simp, HR0.out⟩
    case round =>
      clear HR0
      obtain ⟨k, hk, rfl, hrel⟩ := hrel
      by_cases hlt : k < n
      · have hki : (k : Int) < (n : Int) := by omega
        obtain ⟨vd1, F1, hF1, hQ, hC, hE⟩ := hrel.out
        have hkE : k < E.length := by have := HN.out; omega
        obtain ⟨ad, nd, cd, hvd1, hnd⟩ : ∃ ad nd cd, vd1 = .slice ad nd cd ∧ nd = D.length + k := by
          obtain ⟨a, c, hh⟩ := ownsRow_slice hQ.rd
          refine ⟨a, _, c, hh, by simp; omega⟩
        have hndn : nd ≤ 1024 := by have := HL.out.2; omega
        rcases hE.lay with ⟨he1, he2⟩ | ⟨ge, cape, he1, hBe, hle⟩
        · subst he2; simp at hkE
        injection he1 with he3 he4 he5
        subst he3
        have hget : E[k]? = some E[k] := by simp [hkE]
        have HG := hid hget
        obtain ⟨d0, d1, d2⟩ := hle.get hget
        generalize E[k] = x at *
        obtain ⟨xv, xo, xa⟩ := x
        simp only [eS] at d0 d1 d2
        have hqE := hQ.below ((Below.refl wr.heap.size wr).alloc (Nat.le_refl _) (.cells #[.int .i64 v, .int .i64 xo, .string xa] 67))
        have hbE := Box.new wr #[.int .i64 v, .int .i64 xo, .string xa] 67
        have hchE := (Chg.refl (fun _ => False) wr).alloc (.cells #[.int .i64 v, .int .i64 xo, .string xa] 67)
        have hszE : (wr.alloc (.cells #[.int .i64 v, .int .i64 xo, .string xa] 67)).heap.size = wr.heap.size + 1 := by simp
        obtain ⟨wy, hwy⟩ : ∃ wy, wy = wr.alloc (.cells #[.int .i64 v, .int .i64 xo, .string xa] 67) := ⟨_, rfl⟩
        obtain ⟨eb, heb⟩ : ∃ eb, eb = wr.heap.size := ⟨_, rfl⟩
        rw [← hwy] at hqE hbE hchE hszE
        rw [← heb] at hbE hszE
        have HY := hid (And.intro hqE (And.intro hbE hchE))
        have HRL := hid (And.intro hF1 (And.intro hC hE))
        have HND := hid (And.intro hvd1 hnd)
        have HYE := hid (And.intro hwy heb)
        have hQb : Hid (∀ i, vd1.ownBlock = some i → i < wr.heap.size) := fun i hi => (hQ.rd.lt i hi).1
        have HSZ := hid hszE
        clear hszE
        clear hqE hbE hchE hrel hF1 hQ hC hE hget hle hvd1 hnd hwy heb hBe he4 he5 hkE
        go_wp2_with fail
        rw [← HYE.out.1, ← HYE.out.2]
        have HCA : Hid (∀ u, Below wy.heap.size wy u → ∀ z ∈ [((⟨q, 2, none⟩ : Addr), (.slice ad nd cd : Value)), (⟨eb, 0, none⟩, .int .i64 v), (⟨eb, 1, none⟩, .int .i64 xo), (⟨eb, 2, none⟩, .string xa)], u.cell? z.1 = some z.2) := fun u hb z hz => by
          obtain ⟨y1, y2, y3⟩ := HY.out
          have b1 := y1.box.below hb y1.box.lt
          have b2 := y2.below hb y2.lt
          simp at hz
          rcases hz with rfl | rfl | rfl | rfl
          · exact (b1.cell 2).trans (by rw [HND.out.1]; rfl)
          · exact b2.cell 0
          · exact b2.cell 1
          · exact b2.cell 2
        have HCS : Hid (∀ z ∈ [((⟨q, 2, none⟩ : Addr), (.slice ad nd cd : Value)), (⟨eb, 0, none⟩, .int .i64 v), (⟨eb, 1, none⟩, .int .i64 xo), (⟨eb, 2, none⟩, .string xa)], wy.drew.cell? z.1 = some z.2) := HCA.out _ ⟨rfl, rfl, rfl, Nat.le_refl _, fun _ _ => rfl⟩
        have hb6 : Below wy.heap.size wy ((wy.alloc (.cells #[.int .i64 v, .int .i64 xo, .string xa] 67)).drew) := ((Below.refl wy.heap.size wy).alloc (Nat.le_refl _) (.cells #[.int .i64 v, .int .i64 xo, .string xa] 67)).drew
        have HC6 : Hid (∀ z ∈ [((⟨q, 2, none⟩ : Addr), (.slice ad nd cd : Value)), (⟨eb, 0, none⟩, .int .i64 v), (⟨eb, 1, none⟩, .int .i64 xo), (⟨eb, 2, none⟩, .string xa)], ((wy.alloc (.cells #[.int .i64 v, .int .i64 xo, .string xa] 67)).drew).cell? z.1 = some z.2) := HCA.out _ hb6
        have hq6 := HY.out.1.below hb6
        have HR7 : Hid (((wy.alloc (.cells #[.int .i64 v, .int .i64 xo, .string xa] 67)).drew).ownsRow B 67 3 (.slice ad nd cd) nd (flat eS (D ++ (E.take k).map (fun e => { e with ver := v }))) ∧ ((wy.alloc (.cells #[.int .i64 v, .int .i64 xo, .string xa] 67)).drew).heap[wy.heap.size]? = some (.cells #[.int .i64 v, .int .i64 xo, .string xa] 67 (0, 0)) ∧ B ≤ ((wy.alloc (.cells #[.int .i64 v, .int .i64 xo, .string xa] 67)).drew).heap.size) := by
          have hr := hq6.rd
          have hlk : (D ++ (E.take k).map (fun e : En ByteArray => { e with ver := v })).length = nd := by have := HN.out; have := HND.out.2; simp; omega
          unfold IsRow at hr
          rw [hlk, HND.out.1] at hr
          exact ⟨hr, Box.new wy #[.int .i64 v, .int .i64 xo, .string xa] 67, by have := HB1.out.1; have := HRL.out.2.1.size; have := HY.out.2.2.size; have := hb6.size; omega⟩
        have HPUT : Hid (∀ gg gc w4, w4.ownsRow B 67 3 (.slice (some ⟨gg, 0, none⟩) (nd + 1) gc) (nd + 1) (flat eS (D ++ (E.take k).map (fun e => { e with ver := v })) ++ [.int .i64 v, .int .i64 xo, .string xa]) → ((wy.alloc (.cells #[.int .i64 v, .int .i64 xo, .string xa] 67)).drew).grownBy w4 (Value.slice ad nd cd).ownBlock → ((Value.slice ad nd cd).ownBlock = some gg ∨ gg = ((wy.alloc (.cells #[.int .i64 v, .int .i64 xo, .string xa] 67)).drew).heap.size) →
            Hid (∀ z ∈ [((⟨q, 2, none⟩ : Addr), (.slice ad nd cd : Value)), (⟨eb, 0, none⟩, .int .i64 v), (⟨eb, 1, none⟩, .int .i64 xo), (⟨eb, 2, none⟩, .string xa)], w4.cell? z.1 = some z.2) ∧ Hid (w4.frozen? ⟨q, 2, none⟩ = false ∧ CmR w (w4.setCell ⟨q, 2, none⟩ (.slice (some ⟨gg, 0, none⟩) (nd + 1) gc)) B q W D E v F vw' (.slice (some ⟨ge, 0, none⟩) n co) (k + 1))) := fun gg gc w4 hown4 hgrow hat => by
          have hlk : (D ++ (E.take k).map (fun e : En ByteArray => { e with ver := v })).length = nd := by have := HN.out; have := HND.out.2; simp; omega
          have hgc := Chg.ofGrown hgrow
          have hv1 := HND.out.1
          rw [← hv1] at hgc
          have hq6' := hq6
          have hnq : vd1.ownBlock ≠ some q := fun e => (hq6.fd q e).2 rfl
          have hbq := hq6.box.chg hgc hnq
          have hbe := (HY.out.2.1.below hb6 HY.out.2.1.lt).chg hgc (fun e => by
            have h9 := (HRL.out.1 eb (hq6.fd eb e).1).1
            have h8 := (hq6.rd.lt eb e).1
            have h7 := (hQb.out eb e)
            have := HYE.out.2
            omega)
          have htk : (E.take (k + 1)).map (fun e : En ByteArray => { e with ver := v }) = (E.take k).map (fun e => { e with ver := v }) ++ [⟨v, xo, xa⟩] := by
            rw [List.take_add_one, HG.out]; simp
          have hr4 : IsRow eS 67 w4 B (.slice (some ⟨gg, 0, none⟩) (nd + 1) gc) (D ++ (E.take (k + 1)).map (fun e => { e with ver := v })) := by
            unfold IsRow
            rw [htk, ← List.append_assoc, List.length_append, hlk, List.length_singleton, flat_app]
            exact hown4
          have hb6s : wr.heap.size ≤ ((wy.alloc (.cells #[.int .i64 v, .int .i64 xo, .string xa] 67)).drew).heap.size := by have := HY.out.2.2.size; have := hb6.size; omega
          have hput := hq6.putD (D := D ++ (E.take (k + 1)).map (fun e => { e with ver := v })) (v' := .slice (some ⟨gg, 0, none⟩) (nd + 1) gc) hgc hr4 (by
            rcases hat with hat | hat
            · exact .inl (by rw [hv1]; exact hat.symm ▸ rfl)
            · exact .inr (fun i hi => by
              have hi : gg = i := by simpa [Value.ownBlock] using hi
              omega)) (by have h5 := HL.out.2; have := HN.out; rw [htk, ← List.append_assoc, List.length_append, hlk]; have := HND.out.2; simp; omega)
          refine ⟨fun z hz => ?_, hbq.frozen 2, _, _, fun i hi => ?_, hput.1, ?_, ?_⟩
          · simp at hz
            rcases hz with rfl | rfl | rfl | rfl
            · exact (hbq.cell 2).trans (by rw [hv1]; rfl)
            · exact hbe.cell 0
            · exact hbe.cell 1
            · exact hbe.cell 2
          · rcases hi with hi | hi
            · exact HRL.out.1 i hi
            · rcases hat with hat | hat
              · exact HRL.out.1 i (hq6.fd i (by rw [hv1]; rw [hat]; exact hi)).1
              · have hi : gg = i := by simpa [Value.ownBlock] using hi
                have h1 := HRL.out.2.1.size
                refine ⟨.inr (by omega), fun e => ?_⟩
                have h2 := (HRL.out.2.2.lt i e).1
                omega
          · have hc1 := (HRL.out.2.1.trans HY.out.2.2 (fun i _ e => e.elim)).trans (Chg.ofBelow (S := fun _ => False) hb6) (fun i _ e => e.elim)
            refine hc1.trans hput.2 (fun i hi e => ?_)
            rcases (HRL.out.1 i e).1 with h3 | h3
            · exact h3
            · omega
          · have hE2 := (HRL.out.2.2.chg HY.out.2.2 (fun _ _ x => x)).chg (Chg.ofBelow (S := fun _ => False) hb6) (fun _ _ x => x)
            refine hE2.chg hput.2 (fun b hb e => (HRL.out.1 b e).2 hb)
        clear hb6 hq6
        refine wp_region_any (by kernel_rfl) ?_
        refine wpAny_take (i := 0) (v := ?_) rfl (by kernel_rfl) (by kernel_rfl) (by kernel_rfl) (fun _ _ _ h => h) (Or.inl ⟨by rfl, ?_⟩) ?_
        rotate_left
        · intro u
          go_simp
          with_reducible rfl
        simp only [Act.put, List.setIfInBounds_toArray, List.set_cons_zero, List.set_cons_succ, List.getElem_toArray, List.getElem_cons_zero]
        refine wpAny_take (i := 1) (v := ?_) rfl (by kernel_rfl) (by kernel_rfl) (by kernel_rfl) (fun _ _ _ h => h) (Or.inl ⟨by rfl, ?_⟩) ?_
        rotate_left
        · intro u
          go_simp
          with_reducible rfl
        simp only [Act.put, List.setIfInBounds_toArray, List.set_cons_zero, List.set_cons_succ, List.getElem_toArray, List.getElem_cons_zero, List.getElem_cons_succ]
        refine wpAny_take (i := 2) (v := ?_) rfl (by kernel_rfl) (by kernel_rfl) (by kernel_rfl) (fun _ _ _ h => h) (Or.inl ⟨by rfl, ?_⟩) ?_
        rotate_left
        · intro u
          go_simp
          with_reducible rfl
        simp only [Act.put, List.setIfInBounds_toArray, List.set_cons_zero, List.set_cons_succ, List.getElem_toArray, List.getElem_cons_zero, List.getElem_cons_succ]
        refine wpAny_take (i := 3) (v := ?_) rfl (by kernel_rfl) (by kernel_rfl) (by kernel_rfl) (fun _ _ _ h => h) (Or.inl ⟨by rfl, ?_⟩) ?_
        rotate_left
        · intro u
          go_simp
          with_reducible rfl
        simp only [Act.put, List.setIfInBounds_toArray, List.set_cons_zero, List.set_cons_succ, List.getElem_toArray, List.getElem_cons_zero, List.getElem_cons_succ]
        refine wpAny_of_E (C := SlotsCells [(38, .pointer (some ⟨q, 2, none⟩)), (10, .pointer (some ⟨eb, 0, none⟩))] [(⟨q, 2, none⟩, .slice ad nd cd), (⟨eb, 0, none⟩, .int .i64 v), (⟨eb, 1, none⟩, .int .i64 xo), (⟨eb, 2, none⟩, .string xa)]) (late := [10]) _ _ _ _ ?_
        refine wpAnyE_take (i := 4) (v := .slice ad nd cd) rfl (by kernel_rfl) (by kernel_rfl) (by kernel_rfl) (by kernel_rfl) (by kernel_rfl) (by kernel_rfl) (fun _ _ _ h => h) ?_ (fun fr u h => (SlotsCells.put 39 _ (by rfl)).1 h) (fun fr u h => (SlotsCells.put 39 _ (by rfl)).2 h) ?_ ?_
        · intro fr u hh
          have e1 := hh.val (s := 38) (v := .pointer (some ⟨q, 2, none⟩)) (by simp)
          have d0 := hh.2 (⟨q, 2, none⟩, .slice ad nd cd) (by simp)
          exact ⟨rfl, by simp [execOp, e1, go_sem, d0]⟩
        · exact ⟨fun q hq => by simp at hq; rcases hq with rfl | rfl <;> rfl, HCS.out⟩
        simp only [Act.put, List.setIfInBounds_toArray, List.set_cons_zero, List.set_cons_succ, List.getElem_toArray, List.getElem_cons_zero, List.getElem_cons_succ]
        refine wpAnyE_take (i := 5) (v := .agg #[.int .i64 v, .int .i64 xo, .string xa]) rfl (by kernel_rfl) (by kernel_rfl) (by kernel_rfl) (by kernel_rfl) (by kernel_rfl) (by kernel_rfl) (fun _ _ _ h => h) ?_ (fun fr u h => (SlotsCells.put 40 _ (by rfl)).1 h) (fun fr u h => (SlotsCells.put 40 _ (by rfl)).2 h) ?_ ?_
        · intro fr u hh
          have e1 := hh.val (s := 10) (v := .pointer (some ⟨eb, 0, none⟩)) (by simp)
          have d0 := hh.2 (⟨eb, 0, none⟩, .int .i64 v) (by simp)
          have d1 := hh.2 (⟨eb, 1, none⟩, .int .i64 xo) (by simp)
          have d2 := hh.2 (⟨eb, 2, none⟩, .string xa) (by simp)
          exact ⟨rfl, by simp [execOp, e1, go_sem, d0, d1, d2]⟩
        · exact ⟨fun q hq => by simp at hq; rcases hq with rfl | rfl <;> rfl, HCS.out⟩
        simp only [Act.put, List.setIfInBounds_toArray, List.set_cons_zero, List.set_cons_succ, List.getElem_toArray, List.getElem_cons_zero, List.getElem_cons_succ]
        refine wpAnyE_some (rs := [6]) (by kernel_rfl) (by simp) (fun i hi => ?_)
        simp only [List.mem_cons, List.not_mem_nil, or_false] at hi
        subst hi
        refine wpOp_step rfl (fun Kc hKc => ?_)
        go_simp
        refine hKc _ _ ⟨.inr (.inr ⟨fun q hq => by simp at hq; rcases hq with rfl | rfl <;> rfl, HC6.out⟩), ?_⟩
        clear hKc Kc
        refine wpAnyE_some (rs := [7]) (by kernel_rfl) (by simp) (fun i hi => ?_)
        simp only [List.mem_cons, List.not_mem_nil, or_false] at hi
        subst hi
        refine wpOp_step rfl (fun Kc hKc => ?_)
        rw [if_pos (by rfl)]
        refine wp_append_lies _ _ _ 64 rfl B 67 i0 (.agg #[.int .i64 0, .int .i64 0, .string .empty]) 3 32 Try.underlying64 hi0 hz0 hz1 hz2 rfl (by decide) (.slice ad nd cd) nd _ rfl HR7.out.1 ⟨wy.heap.size, 0, none⟩ 1 1 [.int .i64 v, .int .i64 xo, .string xa] rfl rfl (World.news_of_block HR7.out.2.1) ?c2 (by decide) ?c3 ?c4 HR7.out.2.2 _ rfl ?_
        case c2 => intro u hu; simp at hu; rcases hu with rfl | rfl | rfl <;> rfl
        case c3 => unfold maxLen; omega
        case c4 => omega
        intro gg gc w4 hown4 hgrow hat hlt4
        obtain ⟨HP1, HP2⟩ := HPUT.out gg gc w4 hown4 hgrow hat
        refine hKc _ _ ⟨.inr (.inr ⟨fun q hq => by simp at hq; rcases hq with rfl | rfl <;> rfl, HP1.out⟩), ?_⟩
        clear hKc Kc
        have d1 := HP1.out (⟨q, 2, none⟩, .slice ad nd cd) (by simp)
        have d2 := HP2.out.1
        clear hown4 hgrow hat hlt4
        refine wpAnyE_some (rs := [8]) (by kernel_rfl) (by simp) (fun i hi => ?_)
        simp only [List.mem_cons, List.not_mem_nil, or_false] at hi
        subst hi
        refine wpOp_step rfl (fun Kc hKc => ?_)
        go_simp
        refine hKc _ _ ⟨.inr (.inr ⟨fun q hq => by simp at hq; rcases hq with rfl | rfl <;> rfl, HP1.out⟩), ?_⟩
        clear hKc Kc
        refine wpAnyE_some (rs := [9]) (by kernel_rfl) (by simp) (fun i hi => ?_)
        simp only [List.mem_cons, List.not_mem_nil, or_false] at hi
        subst hi
        refine wpOp_step rfl (fun Kc hKc => ?_)
        go_simp
        refine hKc _ _ ⟨.inr (.inr ⟨fun q hq => by simp at hq; rcases hq with rfl | rfl <;> rfl, HP1.out⟩), ?_⟩
        clear hKc Kc
        refine wpAnyE_some (rs := [10]) (by kernel_rfl) (by simp) (fun i hi => ?_)
        simp only [List.mem_cons, List.not_mem_nil, or_false] at hi
        subst hi
        refine wpOp_step rfl (fun Kc hKc => ?_)
        go_simp
        refine hKc _ _ ⟨.inr (.inl rfl), ?_⟩
        clear hKc Kc
        refine wpAnyE_done (by kernel_rfl) ?_ _
        go_wp2_with fail
        go_roundw
        case rel => exact ⟨k + 1, by omega, by simp, HP2.out.2⟩
        case measure => simp only [intOf]; omega
      · have hki : ¬ (k : Int) < (n : Int) := by omega
        obtain ⟨vd1, F1, hF1, hQ, hC, hE⟩ := hrel.out
        have hkn : k = n := by omega
        have htk : E.take k = E := by rw [hkn, HN.out]; exact List.take_length
        rw [htk] at hQ
        obtain ⟨E2, hE2⟩ : ∃ E2, E2 = E.map (fun e : En ByteArray => { e with ver := v }) := ⟨_, rfl⟩
        rw [← hE2] at hQ
        have hl2 : E2.length = n := by rw [hE2, List.length_map, HN.out]
        have c1 : wr.cell? ⟨q, 2, none⟩ = some vd1 := hQ.box.cell 2
        have cs := sort_at (D ++ E2) hQ.rd (by have := HL.out.1; simp only [List.length_append]; omega)
        have hrE : Rise En.ver E2 := by
          rw [hE2]
          refine List.pairwise_map.2 (List.pairwise_of_forall (fun a b => ?_))
          exact Int.le_refl _
        have HFIN : Hid (∀ u, (∃ L, Stb En.ver (D ++ E2) L ∧ IsRow eS 67 u B vd1 L ∧ Chg (fun k => vd1.ownBlock = some k) wr u) → ToQ eS 70 67 w B q ⟨W, mrg En.ver D (E.map (fun e : En ByteArray => { e with ver := v }))⟩ F u) := fun u ⟨L, g1, g2, g3⟩ => by
          rw [← hE2]
          have hm : L = mrg En.ver D E2 := g1.uniq _ ((Stb.same En.ver HRI.out).mrg En.ver (Stb.same En.ver hrE))
          subst hm
          have hnq : vd1.ownBlock ≠ some q := fun e => (hQ.fd q e).2 rfl
          refine ⟨⟨F1, fun i hi => (hF1 i hi).1, vw', vd1, ⟨hQ.fq, fun i hi => ⟨(hQ.fB i hi).1, Nat.lt_of_lt_of_le (hQ.fB i hi).2 g3.size⟩, hQ.box.chg g3 hnq, hQ.rw.chg g3 (fun b e e' => hQ.ne b e e'), g2, hQ.fw, hQ.fd, hQ.ne, by have := HL.out.2; simp only [mrg_len]; omega⟩, rise_mrg _ _ _ HRI.out hrE⟩, ?_⟩
          refine hC.trans g3 (fun i hi e => ?_)
          rcases (hF1 i (hQ.fd i e).1).1 with h | h
          · exact h
          · omega
        obtain ⟨ad, nd, cd, hvd1⟩ : ∃ ad nd cd, vd1 = .slice ad nd cd := by
          obtain ⟨a, c, hh⟩ := ownsRow_slice hQ.rd
          exact ⟨a, _, c, hh⟩
        subst hvd1
        have HCS := hid cs
        clear hF1 hQ hC hE hkn htk hl2 cs hrE hrel hE2
        go_wp2_with (go_at_call 42; refine HCS.out.mono ?_; rintro _ w5 ⟨rfl, hL5⟩; have hT := HFIN.out _ hL5; have HT := hid hT; clear hT hL5)
        go_ret2
        exact ⟨rfl, HT.out⟩
end S
end Go.Proofs.Ytlbnilendcelkaa
