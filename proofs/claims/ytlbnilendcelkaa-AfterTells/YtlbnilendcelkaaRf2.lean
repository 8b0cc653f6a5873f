/-
  The document's Take.
-/
import Derived.Test.YtlbnilendcelkaaRf
namespace Go.Proofs.Ytlbnilendcelkaa
open Go.RowKit
/-- two rows that a loop builds out of a list: what p says yes to, and the rest -/
def Twr (w u : World) (va vb : Value) (A C : List (En Int)) : Prop := Below w.heap.size w u ∧ IsRow eR 46 u w.heap.size va A ∧ IsRow eR 46 u w.heap.size vb C ∧ ∀ b, va.ownBlock = some b → vb.ownBlock ≠ some b
theorem Twr.start (w : World) : Twr w w (.slice none 0 0) (.slice none 0 0) [] [] := ⟨Below.refl _ _, IsRow.nil _ _ _ _, IsRow.nil _ _ _ _, fun b e => by cases e⟩
theorem Twr.swap {w u : World} {va vb : Value} {A C : List (En Int)} (h : Twr w u va vb A C) : Twr w u vb va C A := ⟨h.1, h.2.2.1, h.2.1, fun b e e' => h.2.2.2 b e' e⟩
/-- one more in the first -/
theorem Twr.more {w u u2 u3 : World} {va vb v' : Value} {A C : List (En Int)} (h : Twr w u va vb A C) (hb : Below u.heap.size u u2) (e : En Int) (hg : u2.grownBy u3 va.ownBlock) (hr : u3.ownsRow w.heap.size 46 3 v' (A.length + 1) (flat eR A ++ [.int .i64 e.own, .int .i64 e.act, .int .i64 e.ver])) (z : Nat) (hz : u.heap.size ≤ z) (hat : v'.ownBlock = va.ownBlock ∨ v'.ownBlock = some z) : Twr w u3 v' vb (A ++ [e]) C := by
  have hc := Chg.ofGrown hg
  have hsz := h.1.size
  have hs2 := hb.size
  refine ⟨(h.1.trans (hb.mono hsz)).trans (hc.below (by omega) fun k hk => (h.2.1.lt k hk).2), ?_, (h.2.2.1.chg (S := fun _ => False) (Chg.ofBelow hb) (fun _ _ x => x)).chg hc (fun b e e' => h.2.2.2 b e' e), fun b e e' => ?_⟩
  · unfold IsRow
    rw [List.length_append, List.length_singleton, flat_app]
    exact hr
  · rcases hat with hat | hat
    · rw [hat] at e; exact h.2.2.2 b e e'
    · rw [hat] at e; injection e with e; have := (h.2.2.1.lt b e').1; omega
theorem rise_filter {l : List (En Int)} (h : Rise En.ver l) (p : En Int → Bool) : Rise En.ver (l.filter p) := List.Pairwise.sublist List.filter_sublist h
theorem ownsRow_below' {w w' : World} {B n : Nat} {e : TypeId} {size : Nat} {v : Value} {xs : List Value} (h : w.ownsRow B e size v n xs) (hb : Below w.heap.size w w') : w'.ownsRow B e size v n xs := by
  refine ⟨h.1, ?_⟩
  rcases h.2 with h | ⟨g, cap, cur, e, hB, hx, r⟩
  · exact .inl h
  · exact .inr ⟨g, cap, cur, e, hB, (hb.block g (Array.getElem?_eq_some_iff.1 hx).1).trans hx, r⟩
set_option maxHeartbeats 1600000 in
set_option maxRecDepth 100000 in
theorem rtake_at {w : World} {B r : Nat} {S : QS Int} {F : Nat → Prop} (h0 : HasR w B r S F) (o : Int) :
    Calls Try.prog 17 #[ptr r, .int .i64 o] w fun e w' => ∃ v, e = .returned v ∧ IsRow eR 46 w' w.heap.size v (S.take o).1 ∧ ToR w B r (S.take o).2 F w' := by
  obtain ⟨vw, vd, h, hri⟩ := h0
  have c1 : w.cell? ⟨r, 1, none⟩ = some vd := h.box.cell 1
  have f1 : w.frozen? ⟨r, 1, none⟩ = false := h.box.frozen 1
  obtain ⟨nw, hnw⟩ : ∃ nw, nw = S.due.length := ⟨_, rfl⟩
  obtain ⟨aw, cw, hvw⟩ := ownsRow_slice h.rd
  rw [← hnw] at hvw
  have hnl : nw ≤ 1024 := by have := h.rm; omega
  have HR := hid (And.intro h hri)
  have HN := hid (And.intro hnw hvw)
  rw [hvw] at c1
  have hrl := h.box.lt
  clear h hnw hvw hri
  obtain ⟨i0, hi0, hz0, hz1, hz2⟩ := info_parts infoR
  unfold ptr at *
  go_enter Try.func17, Try.ntmps17
  go_wp2_with fail
  go_loopw [5, 6, 7] (fun va vb i u => ∃ k : Nat, k ≤ nw ∧ i = .int .i64 (k : Int) ∧ Hid (Twr w u va vb ((S.due.take k).filter fun e => decide (e.ver ≤ o)) ((S.due.take k).filter fun e => !decide (e.ver ≤ o)))) (fun _ _ i _ => nw - (intOf i).toNat)
  case atStart => exact ⟨0, Nat.zero_le _, by simp, by simp only [List.take_zero, List.filter_nil]; exact Twr.start w⟩
  case round =>
    obtain ⟨k, hk, rfl, hrel⟩ := hrel
    have htw := hrel.out
    have c1x : wr.cell? ⟨r, 1, none⟩ = some (.slice aw nw cw) := (htw.1.cell (p := ⟨r, 1, none⟩) hrl).trans c1
    by_cases hlt : k < nw
    · have hkD : k < S.due.length := by rw [← HN.out.1]; exact hlt
      have hki : (k : Int) < (nw : Int) := by omega
      have hx := List.getElem?_eq_getElem hkD
      have htk : S.due.take (k + 1) = S.due.take k ++ [S.due[k]] := List.take_succ_eq_append_getElem hkD
      obtain ⟨xe, hxe⟩ : ∃ xe, xe = S.due[k]'hkD := ⟨_, rfl⟩
      rw [← hxe] at hx htk
      obtain ⟨xv, xo, xa⟩ := xe
      have HT := hid htk
      rcases HR.out.1.rd.lay with ⟨hv0, _⟩ | ⟨b1, cap1, hv1, _, l1⟩
      · rw [HN.out.2] at hv0; injection hv0 with _ hz; omega
      rw [HN.out.2, ← HN.out.1] at hv1
      injection hv1 with e1 _ e2
      subst e1 e2
      have l1x := l1.at' (htw.1.block b1 l1.lt)
      obtain ⟨x0, x1, x2⟩ := l1x.get hx
      simp only [eR] at x0 x1 x2
      have hf1 : ∀ p : En Int → Bool, ((S.due.take k).filter p).length ≤ 1024 := fun p => by
        have := List.length_filter_le p (S.due.take k)
        have := List.length_take_le k S.due
        omega
      clear hx htk hxe l1 l1x hrel c1 hrl
      by_cases ho : xv ≤ o
      · have hst1 : (S.due.take (k + 1)).filter (fun e => decide (e.ver ≤ o)) = (S.due.take k).filter (fun e => decide (e.ver ≤ o)) ++ [⟨xv, xo, xa⟩] := by
          rw [HT.out, List.filter_append]; simp [ho]
        have hst2 : (S.due.take (k + 1)).filter (fun e => !decide (e.ver ≤ o)) = (S.due.take k).filter (fun e => !decide (e.ver ≤ o)) := by
          rw [HT.out, List.filter_append]; simp [ho]
        have hA := hf1 (fun e => decide (e.ver ≤ o))
        have HST := hid (And.intro hst1 hst2)
        clear hst1 hst2 hf1
        generalize (S.due.take k).filter (fun e => decide (e.ver ≤ o)) = LA at *
        generalize (S.due.take k).filter (fun e => !decide (e.ver ≤ o)) = LB at *
        obtain ⟨av, cv, hva⟩ := ownsRow_slice htw.2.1
        obtain ⟨na, hna⟩ : ∃ na, na = (LA).length := ⟨_, rfl⟩
        rw [← hna] at hva
        subst hva
        have hnal : na ≤ 1024 := by omega
        have b3 := (Below.refl wr.heap.size wr).alloc (Nat.le_refl _) (.cells #[.int .i64 xo, .int .i64 xa, .int .i64 xv] 46)
        have hx3 := Box.new wr #[.int .i64 xo, .int .i64 xa, .int .i64 xv] 46
        have ho3 := ownsRow_below' htw.2.1 b3
        rw [← hna] at ho3
        have h2s : w.heap.size ≤ wr.heap.size := htw.1.size
        have HG := hid (And.intro htw (And.intro ho3 (And.intro hna (And.intro hx3 b3))))
        clear htw ho3 hna hx3 b3
        go_wp2_with (at_builtin; refine wpList_append_own_at _ rfl _ _ 37 rfl w.heap.size 46 i0 (.agg #[.int .i64 0, .int .i64 0, .int .i64 0]) 3 24 Try.underlying37 hi0 hz0 hz1 hz2 rfl (by decide) _ na _ rfl HG.out.2.1 ⟨wr.heap.size, 0, none⟩ 1 1 [.int .i64 xo, .int .i64 xa, .int .i64 xv] rfl rfl (World.news_of_block HG.out.2.2.2.1) ?c2 ?c3 ?c4 ?c5 ?_)
        case c2 => exact ⟨rfl, rfl, rfl⟩
        case c3 => unfold maxLen; omega
        case c4 => omega
        try (case c5 => first | exact h2s | omega)
        intro v' w5 hown5 hgrow _ hat
        obtain ⟨av', cv', rfl⟩ := ownsRow_slice hown5
        have htw5 := HG.out.1.more HG.out.2.2.2.2 ⟨xv, xo, xa⟩ hgrow (by rw [← HG.out.2.2.1]; exact hown5) _ (by omega) hat
        have HF := hid htw5
        clear htw5 hown5 hgrow hat HG x0 x1 x2 c1x
        go_wp2_with fail
        go_roundw
        case rel => exact ⟨k + 1, by omega, by simp, by rw [HST.out.1, HST.out.2]; exact HF.out⟩
        case measure => simp only [intOf]; omega
      · have hst1 : (S.due.take (k + 1)).filter (fun e => decide (e.ver ≤ o)) = (S.due.take k).filter (fun e => decide (e.ver ≤ o)) := by
          rw [HT.out, List.filter_append]; simp [ho]
        have hst2 : (S.due.take (k + 1)).filter (fun e => !decide (e.ver ≤ o)) = (S.due.take k).filter (fun e => !decide (e.ver ≤ o)) ++ [⟨xv, xo, xa⟩] := by
          rw [HT.out, List.filter_append]; simp [ho]
        have hA := hf1 (fun e => !decide (e.ver ≤ o))
        have HST := hid (And.intro hst1 hst2)
        clear hst1 hst2 hf1
        generalize (S.due.take k).filter (fun e => decide (e.ver ≤ o)) = LB at *
        generalize (S.due.take k).filter (fun e => !decide (e.ver ≤ o)) = LA at *
        obtain ⟨av, cv, hva⟩ := ownsRow_slice htw.2.2.1
        obtain ⟨na, hna⟩ : ∃ na, na = (LA).length := ⟨_, rfl⟩
        rw [← hna] at hva
        subst hva
        have hnal : na ≤ 1024 := by omega
        have b3 := (Below.refl wr.heap.size wr).alloc (Nat.le_refl _) (.cells #[.int .i64 xo, .int .i64 xa, .int .i64 xv] 46)
        have hx3 := Box.new wr #[.int .i64 xo, .int .i64 xa, .int .i64 xv] 46
        have ho3 := ownsRow_below' htw.2.2.1 b3
        rw [← hna] at ho3
        have h2s : w.heap.size ≤ wr.heap.size := htw.1.size
        have HG := hid (And.intro htw (And.intro ho3 (And.intro hna (And.intro hx3 b3))))
        clear htw ho3 hna hx3 b3
        go_wp2_with (at_builtin; refine wpList_append_own_at _ rfl _ _ 37 rfl w.heap.size 46 i0 (.agg #[.int .i64 0, .int .i64 0, .int .i64 0]) 3 24 Try.underlying37 hi0 hz0 hz1 hz2 rfl (by decide) _ na _ rfl HG.out.2.1 ⟨wr.heap.size, 0, none⟩ 1 1 [.int .i64 xo, .int .i64 xa, .int .i64 xv] rfl rfl (World.news_of_block HG.out.2.2.2.1) ?c2 ?c3 ?c4 ?c5 ?_)
        case c2 => exact ⟨rfl, rfl, rfl⟩
        case c3 => unfold maxLen; omega
        case c4 => omega
        try (case c5 => first | exact h2s | omega)
        intro v' w5 hown5 hgrow _ hat
        obtain ⟨av', cv', rfl⟩ := ownsRow_slice hown5
        have htw5 := HG.out.1.swap.more HG.out.2.2.2.2 ⟨xv, xo, xa⟩ hgrow (by rw [← HG.out.2.2.1]; exact hown5) _ (by omega) hat
        have HF := hid htw5.swap
        clear htw5 hown5 hgrow hat HG x0 x1 x2 c1x
        go_wp2_with fail
        go_roundw
        case rel => exact ⟨k + 1, by omega, by simp, by rw [HST.out.1, HST.out.2]; exact HF.out⟩
        case measure => simp only [intOf]; omega
    · have hki : ¬ (k : Int) < (nw : Int) := by omega
      obtain rfl : k = nw := by omega
      rw [HN.out.1, List.take_length] at htw
      obtain ⟨av, cv, hva⟩ := ownsRow_slice htw.2.1
      obtain ⟨bv, dv, hvb⟩ := ownsRow_slice htw.2.2.1
      subst hva hvb
      have f1x : wr.frozen? ⟨r, 1, none⟩ = false := by
        have := HR.out.1.below htw.1
        exact this.box.frozen 1
      have hto := HR.out.1.setD htw.1 htw.2.2.1 (rise_filter HR.out.2 _) (by have := List.length_filter_le (fun e : En Int => !decide (e.ver ≤ o)) S.due; have := HR.out.1.rm; omega)
      have hrb := (HR.out.1.fB r HR.out.1.fq).2
      have hra : IsRow eR 46 (wr.setCell ⟨r, 1, none⟩ (.slice bv ((S.due.filter fun e => !decide (e.ver ≤ o)).length) dv)) w.heap.size (.slice av ((S.due.filter fun e => decide (e.ver ≤ o)).length) cv) (S.due.filter fun e => decide (e.ver ≤ o)) := htw.2.1.chg ((Chg.refl (fun k => k = r) wr).setCell r 1 _ (fun _ => rfl)) (fun b e e' => by have := (htw.2.1.lt b e).2; omega)
      have HF := hid (And.intro hra hto)

      clear htw hrel hra hto c1 hrl hrb
      go_wp2_with fail
      go_ret
      exact ⟨_, rfl, HF.out.1, HF.out.2⟩
end Go.Proofs.Ytlbnilendcelkaa
