/-
  The steps of an end, all of them, plainly.
-/
import Derived.Test.YtlbjalodjcajfaaGreatSte
namespace Go.Proofs.YtlbjalodjcajfaaGreat
open Go.RowKit Go.Sort Go.Maps
def okAll (b : Int) (S : SS En) : List Stp → SP → Prop
  | [], _ => True
  | s :: L, p => s.ok S p ∧ okAll b S L (s.run b S p)
def runAll (b : Int) (S : SS En) : List Stp → SP → SP
  | [], p => p
  | s :: L, p => runAll b S L (s.run b S p)
section
variable {b : Int} {S : SS En}
/-- C' is C, but that f tells what becomes of each cell -/
def Each (C C' : List Cl) (f : Nat → Cl → Cl) : Prop := C'.length = C.length ∧ ∀ j c, C[j]? = some c → C'[j]? = some (f j c)
theorem each_set {C : List Cl} {j : Nat} {c : Cl} (hc : C[j]? = some c) (c' : Cl) {C' : List Cl} {f : Nat → Cl → Cl} (h : Each (C.set j c') C' f) : Each C C' (fun i x => if i = j then f i c' else f i x) := by
  refine ⟨by rw [h.1, List.length_set], fun i x hx => ?_⟩
  dsimp only
  by_cases e : i = j
  · subst e
    rw [if_pos rfl]
    exact h.2 i c' (by rw [List.getElem?_set_self (List.getElem?_eq_some_iff.1 hc).1])
  · rw [if_neg e]
    exact h.2 i x (by rw [List.getElem?_set_ne (Ne.symm e)]; exact hx)
/-- locks -/
theorem locks (R : List Stp) : ∀ (l : List Int) (p : SP), l.Nodup → (∀ i ∈ l, ∃ (j : Nat) (c : Cl), i = (j : Int) ∧ p.C[j]? = some c ∧ c.own = 0) →
    ∃ C', Each p.C C' (fun j c => if (j : Int) ∈ l then ⟨c.e, c.ver, 1⟩ else c) ∧ (okAll b S R { p with C := C' } → okAll b S (l.map .lock ++ R) p) ∧ runAll b S (l.map .lock ++ R) p = runAll b S R { p with C := C' }
  | [], p, _, _ => ⟨p.C, ⟨rfl, fun j c h => by simpa using h⟩, fun h => h, rfl⟩
  | i :: l, p, hn, hl => by
    obtain ⟨hi, hn2⟩ := List.nodup_cons.1 hn
    obtain ⟨j, c, rfl, hc, ho⟩ := hl i (List.mem_cons_self ..)
    have hrun : Stp.run b S p (.lock (j : Int)) = { p with C := p.C.set j ⟨c.e, c.ver, 1⟩ } := by
      simp only [Stp.run, Int.toNat_natCast, hc]
    obtain ⟨C', h1, h2, h3⟩ := locks R l { p with C := p.C.set j ⟨c.e, c.ver, 1⟩ } hn2 (fun a ha => by
      obtain ⟨j', c', rfl, hc', ho'⟩ := hl a (List.mem_cons_of_mem _ ha)
      refine ⟨j', c', rfl, ?_, ho'⟩
      have hne : j ≠ j' := fun e => hi (by rw [e]; exact ha)
      show (p.C.set j _)[j']? = _
      rw [List.getElem?_set_ne hne]; exact hc')
    refine ⟨C', ?_, fun h => ⟨⟨j, c, rfl, hc, ho⟩, by rw [hrun]; exact h2 h⟩, by
      show runAll b S (l.map .lock ++ R) (Stp.run b S p (.lock (j : Int))) = _
      rw [hrun]; exact h3⟩
    have h4 := each_set hc _ h1
    refine ⟨h4.1, fun i x hx => ?_⟩
    rw [h4.2 i x hx]
    dsimp only
    by_cases e : i = j
    · subst e
      rw [hc] at hx
      injection hx with hx
      subst hx
      rw [if_pos rfl, if_neg hi, if_pos (List.mem_cons_self ..)]
    · rw [if_neg e]
      by_cases hm : (i : Int) ∈ l
      · rw [if_pos hm, if_pos (List.mem_cons_of_mem _ hm)]
      · rw [if_neg hm, if_neg (fun h => (List.mem_cons.1 h).elim (fun h => e (by omega)) hm)]
/-- looks -/
theorem looks (R : List Stp) : ∀ (l : List Int) (p : SP), (∀ i ∈ l, ∃ (j : Nat) (c : Cl), i = (j : Int) ∧ p.C[j]? = some c ∧ (c.own = 0 ∨ c.own = 1) ∧ (gt S.R i = some c.ver ∨ gt S.R i = none)) →
    (okAll b S R p → okAll b S (l.map .look ++ R) p) ∧ runAll b S (l.map .look ++ R) p = runAll b S R p
  | [], p, _ => ⟨fun h => h, rfl⟩
  | i :: l, p, hl => by
    obtain ⟨h1, h2⟩ := looks R l p (fun a ha => hl a (List.mem_cons_of_mem _ ha))
    exact ⟨fun h => ⟨hl i (List.mem_cons_self ..), h1 h⟩, h2⟩
/-- publishes -/
theorem pubs (R : List Stp) : ∀ (l : List Int) (p : SP), l.Nodup → p.ver ≤ p.k → (∀ i ∈ l, ∃ (j : Nat) (c : Cl) (e : En), i = (j : Int) ∧ p.C[j]? = some c ∧ c.own = 1 ∧ c.ver < p.ver ∧ gt S.W i = some e) →
    ∃ C' pub', Each p.C C' (fun j c => if (j : Int) ∈ l then ⟨(gt S.W (j : Int)).getD E0, p.ver, 0⟩ else c) ∧ (okAll b S R ⟨p.k, p.ver, pub', C'⟩ → okAll b S (l.map .pub ++ R) p) ∧ runAll b S (l.map .pub ++ R) p = runAll b S R ⟨p.k, p.ver, pub', C'⟩
  | [], p, _, _, _ => ⟨p.C, p.pub, ⟨rfl, fun j c h => by simpa using h⟩, fun h => h, rfl⟩
  | i :: l, p, hn, hk, hl => by
    obtain ⟨hi, hn2⟩ := List.nodup_cons.1 hn
    obtain ⟨j, c, e, rfl, hc, ho, hv, hw⟩ := hl i (List.mem_cons_self ..)
    have hrun : Stp.run b S p (.pub (j : Int)) = { p with pub := true, C := p.C.set j ⟨(gt S.W (j : Int)).getD E0, p.ver, 0⟩ } := by
      simp only [Stp.run, Int.toNat_natCast]
    obtain ⟨C', pub', h1, h2, h3⟩ := pubs R l { p with pub := true, C := p.C.set j ⟨(gt S.W (j : Int)).getD E0, p.ver, 0⟩ } hn2 hk (fun a ha => by
      obtain ⟨j', c', e', rfl, hc', ho'⟩ := hl a (List.mem_cons_of_mem _ ha)
      refine ⟨j', c', e', rfl, ?_, ho'⟩
      have hne : j ≠ j' := fun e => hi (by rw [e]; exact ha)
      show (p.C.set j _)[j']? = _
      rw [List.getElem?_set_ne hne]; exact hc')
    refine ⟨C', pub', ?_, fun h => ⟨⟨j, c, e, rfl, hc, ho, hv, hk, hw⟩, by rw [hrun]; exact h2 h⟩, by
      show runAll b S (l.map .pub ++ R) (Stp.run b S p (.pub (j : Int))) = _
      rw [hrun]; exact h3⟩
    have h4 := each_set hc _ h1
    refine ⟨h4.1, fun i x hx => ?_⟩
    rw [h4.2 i x hx]
    dsimp only
    by_cases e : i = j
    · subst e
      rw [if_pos rfl, if_neg hi, if_pos (List.mem_cons_self ..)]
    · rw [if_neg e]
      by_cases hm : (i : Int) ∈ l
      · rw [if_pos hm, if_pos (List.mem_cons_of_mem _ hm)]
      · rw [if_neg hm, if_neg (fun h => (List.mem_cons.1 h).elim (fun h => e (by omega)) hm)]
/-- all the steps go well, and what is left behind them -/
theorem fin_ok {C : List Cl} {k : Int} (hk : 0 ≤ k) (hk2 : k < 1099511627776) (hC : ∀ c ∈ C, c.own = 0 ∧ c.ver ≤ k) (hn : (kys S.W).Nodup) (hW : ∀ i ∈ kys S.W, ∃ (j : Nat) (e : En), i = (j : Int) ∧ j < C.length ∧ gt S.W i = some e) (hWn : ∀ i, i ∉ kys S.W → gt S.W i = none)
    (hR : ∀ i ∈ kys S.R, ∃ (j : Nat) (c : Cl), i = (j : Int) ∧ C[j]? = some c ∧ gt S.R i = some c.ver) (hmem : ∀ l : List Int, ∀ x, x ∈ srt l ↔ x ∈ l) (hnd : ∀ l : List Int, l.Nodup → (srt l).Nodup) :
    okAll b S (ends S) ⟨k, 0, false, C⟩ ∧ ∃ k' ver' pub' C', runAll b S (ends S) ⟨k, 0, false, C⟩ = ⟨k', ver', pub', C'⟩ ∧ (k' = k ∨ k' = k + 1) ∧ Each C C' (fun j c => match gt S.W (j : Int) with | some e => ⟨e, k', 0⟩ | none => c) := by
  unfold ends
  by_cases h0 : S.W.length = 0
  · rw [if_pos h0]
    refine ⟨⟨trivial, trivial⟩, k, b, false, C, rfl, .inl rfl, rfl, fun j c h => ?_⟩
    have : gt S.W (j : Int) = none := hWn _ (by unfold kys; rw [List.length_eq_zero_iff.1 h0]; simp)
    dsimp only
    rw [this]; exact h
  · rw [if_neg h0]
    obtain ⟨C1, a1, a2, a3⟩ := locks (b := b) (S := S) (.adv :: ((srt (kys S.R)).map .look ++ (srt (kys S.W)).map .pub)) (srt (kys S.W)) ⟨k, 0, false, C⟩ (hnd _ hn) (fun i hi => by
      obtain ⟨j, e, rfl, hj, _⟩ := hW i ((hmem _ _).1 hi)
      exact ⟨j, _, rfl, List.getElem?_eq_getElem hj, (hC _ (List.getElem_mem hj)).1⟩)
    obtain ⟨b1, b2⟩ := looks (b := b) (S := S) ((srt (kys S.W)).map .pub) (srt (kys S.R)) ⟨k + 1, k + 1, false, C1⟩ (fun i hi => by
      obtain ⟨j, c, rfl, hc, hg⟩ := hR i ((hmem _ _).1 hi)
      refine ⟨j, _, rfl, a1.2 j c hc, ?_, ?_⟩
      · dsimp only
        split
        · exact .inr rfl
        · exact .inl (hC c (List.mem_of_getElem? hc)).1
      · refine .inl (hg.trans ?_)
        dsimp only
        split <;> rfl)
    obtain ⟨C2, pub', c1, c2, c3⟩ := pubs (b := b) (S := S) [] (srt (kys S.W)) ⟨k + 1, k + 1, false, C1⟩ (hnd _ hn) (Int.le_refl _) (fun i hi => by
      obtain ⟨j, e, rfl, hj, hg⟩ := hW i ((hmem _ _).1 hi)
      have hc := List.getElem?_eq_getElem hj
      have h1 := a1.2 j _ hc
      dsimp only at h1
      rw [if_pos hi] at h1
      have h2 := (hC _ (List.getElem_mem hj)).2
      exact ⟨j, _, e, rfl, h1, rfl, by dsimp only; omega, hg⟩)
    rw [List.append_nil] at c2 c3
    refine ⟨a2 ⟨⟨hk, hk2⟩, b1 (c2 trivial)⟩, k + 1, k + 1, pub', C2, ?_, .inr rfl, by rw [c1.1]; exact a1.1, fun j c h => ?_⟩
    · rw [a3]
      show runAll b S ((srt (kys S.R)).map .look ++ (srt (kys S.W)).map .pub) ⟨k + 1, k + 1, false, C1⟩ = _
      rw [b2, c3]
      rfl
    · have := c1.2 j _ (a1.2 j c h)
      dsimp only at this ⊢
      rw [this]
      by_cases hm : (j : Int) ∈ srt (kys S.W)
      · obtain ⟨j', e, hj', _, hg⟩ := hW _ ((hmem _ _).1 hm)
        rw [if_pos hm, hg]
        rfl
      · rw [if_neg hm, if_neg hm, hWn _ (fun e => hm ((hmem _ _).2 e))]
end
end Go.Proofs.YtlbjalodjcajfaaGreat
