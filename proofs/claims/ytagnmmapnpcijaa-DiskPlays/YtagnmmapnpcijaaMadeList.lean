/-
  made's list: as it is laid, as it is cut.
-/
import Derived.Test.YtagnmmapnpcijaaMadeDisk
import Derived.Test.YtagnmmapnpcijaaInts
namespace Go.Proofs.Ytagnmmapnpcijaa
open Go.RowKit

/-- the first k of the four piles, a block's bytes each -/
structure SK (w0 w : World) (F : Nat → Prop) (gs k : Nat) (x : List UInt8) (gf : Nat → Nat) (vf : Nat → Value) : Prop where
  box : Box w gs #[vf 0, vf 1, vf 2, vf 3] 46
  gsF : ¬ F gs
  gs0 : w0.heap.size ≤ gs
  g0 : ∀ i, i < k → w0.heap.size ≤ gf i
  pile : ∀ i, i < k → Pile w F (gf i) (vf i) [x]
  apart : ∀ i, i < k → ∀ j, j < k → i ≠ j → gf i ≠ gf j

theorem SK.step {w0 w w1 : World} {F : Nat → Prop} {gs k : Nat} {x : List UInt8} {gf : Nat → Nat} {vf : Nat → Value} (h : SK w0 w F gs k x gf vf) (hk : k < 4) (hx : x.length = 4096) (b : Below w.heap.size w w1) (ga : Nat) (o : Own w1 ga x) (hga : w.heap.size ≤ ga) (hsz : w0.heap.size ≤ w.heap.size) (hFlt : ∀ i, F i → i < w.heap.size) :
    SK w0 ((w1.alloc (.cells #[.slice (some ⟨ga, 0, none⟩) 4096 4096] 27)).setCell ⟨gs, k, none⟩ (.slice (some ⟨w1.heap.size, 0, none⟩) 1 1)) F gs (k + 1) x (at_ gf k w1.heap.size) (at_ vf k (.slice (some ⟨w1.heap.size, 0, none⟩) 1 1)) := by
  obtain ⟨W, hW⟩ : ∃ W, W = w1.alloc (.cells #[.slice (some ⟨ga, 0, none⟩) 4096 4096] 27) := ⟨_, rfl⟩
  rw [← hW]
  have bA : Below w1.heap.size w1 W := by rw [hW]; exact (Below.refl _ _).alloc (Nat.le_refl _) _
  have bW : Below w.heap.size w W := b.trans (bA.mono b.size)
  have nb : Box W w1.heap.size #[.slice (some ⟨ga, 0, none⟩) 4096 4096] 27 := by rw [hW]; exact Box.new _ _ _
  have oW : Own W ga x := o.below bA o.lt
  have box1 : Box W gs #[vf 0, vf 1, vf 2, vf 3] 46 := h.box.below bW
  have gr := grown_store W gs k (.slice (some ⟨w1.heap.size, 0, none⟩) 1 1)
  have lt : ∀ i, i < k → gf i < w.heap.size := fun i hi => by obtain ⟨c, hb⟩ := (h.pile i hi).box; exact hb.lt
  have z1 := b.size
  refine ⟨?_, h.gsF, h.gs0, fun i hi => ?_, fun i hi => ?_, fun i hi j hj hij => ?_⟩
  · rw [← four_set vf k hk]
    exact box1.store k _
  · by_cases e : i = k
    · subst e; rw [at_same]; omega
    · rw [at_other _ _ _ _ e]; exact h.g0 i (by omega)
  · by_cases e : i = k
    · subst e
      rw [at_same, at_same]
      have hm : x.length ≤ maxLen := by unfold maxLen; omega
      have hp : Pile W F w1.heap.size (.slice (some ⟨w1.heap.size, 0, none⟩) 1 1) [x] :=
        ⟨0, 1, _, rfl, nb, by simp, by simp, by unfold maxLen; omega, fun hf => by have := hFlt _ hf; omega, fun j hj => by
          have : j = 0 := by simp at hj; omega
          subst this
          refine ⟨ga, 4096, rfl, ?_, fun hf => by have := hFlt _ hf; omega⟩
          have := RowB.own oW hm
          rw [hx] at this
          exact this⟩
      exact hp.other box1 (by decide) (nb.ne box1 (by decide)) gr
    · rw [at_other _ _ _ _ e, at_other _ _ _ _ e]
      have p1 := (h.pile i (by omega)).below bW
      obtain ⟨c', hb'⟩ := p1.box
      exact p1.other box1 (by decide) (hb'.ne box1 (by decide)) gr
  · by_cases e : i = k
    · subst e
      rw [at_same, at_other _ _ _ _ (fun e => hij e.symm)]
      have := lt j (by omega)
      omega
    · rw [at_other _ _ _ _ e]
      by_cases e2 : j = k
      · subst e2
        rw [at_same]
        have := lt i (by omega)
        omega
      · rw [at_other _ _ _ _ e2]
        exact h.apart i (by omega) j (by omega) hij

theorem SK.since {w0 w : World} {F : Nat → Prop} {gs : Nat} {x : List UInt8} {gf : Nat → Nat} {vf : Nat → Value} (h : SK w0 w F gs 4 x gf vf) (xf : Nat → List (List UInt8)) (hx : ∀ k, k < 4 → xf k = [x]) : Since w0 w F gs xf gf vf where
  box := h.box
  gs0 := h.gs0
  gsF := h.gsF
  g0 := h.g0
  pile := fun k hk => by rw [hx k hk]; exact h.pile k hk
  one := fun k hk => by rw [hx k hk]; simp
  apart := h.apart

theorem Since.congr {w0 w : World} {F : Nat → Prop} {gs : Nat} {xf xf' : Nat → List (List UInt8)} {gf : Nat → Nat} {vf : Nat → Value} (h : Since w0 w F gs xf gf vf) (e : ∀ k, k < 4 → xf' k = xf k) : Since w0 w F gs xf' gf vf where
  box := h.box
  gs0 := h.gs0
  gsF := h.gsF
  g0 := h.g0
  pile := fun k hk => by rw [e k hk]; exact h.pile k hk
  one := fun k hk => by rw [e k hk]; exact h.one k hk
  apart := h.apart

/-- the first k cut to their last -/
def cutTo (D : DS) (k : Nat) : Nat → List (List UInt8) := fun i => if i < k then [blk D.image i] else sinceOf D i
theorem cutTo_zero (D : DS) : cutTo D 0 = sinceOf D := by funext i; simp [cutTo]

theorem Since.cutOne {w0 w : World} {F : Nat → Prop} {gs : Nat} {D : DS} {k : Nat} {gf : Nat → Nat} {vf : Nat → Value} (h : Since w0 w F gs (cutTo D k) gf vf) (hk : k < 4) (hnb : D.nb = 4) (ok : D.Ok) (hsz : w0.heap.size ≤ w.heap.size) :
    ∃ g o L cap, vf k = .slice (some ⟨g, o, none⟩) L cap ∧ 0 < L ∧ L ≤ cap ∧ cap ≤ maxLen ∧
      Since w0 (w.setCell ⟨gs, k, none⟩ (.slice (some ⟨g, o + (L - 1), none⟩) 1 (cap - (L - 1)))) F gs (cutTo D (k + 1)) gf (at_ vf k (.slice (some ⟨g, o + (L - 1), none⟩) 1 (cap - (L - 1)))) := by
  have e : cutTo D k k = sinceOf D k := if_neg (Nat.lt_irrefl _)
  have hp := h.pile k hk
  have h0 := h.one k hk
  rw [e] at hp h0
  obtain ⟨o, cap, hv, hc, hm, hp'⟩ := hp.cut h0
  refine ⟨gf k, o, _, cap, hv, h0, hc, hm, ?_⟩
  rw [sinceOf_last D k (by omega) ok] at hp'
  have := h.put k hk (gf k) _ [blk D.image k] hp' (World.grownBy.refl _ _) (.inl rfl) (by simp) hsz
  have e1 : at_ gf k (gf k) = gf := by
    funext i
    by_cases q : i = k
    · subst q; rw [at_same]
    · rw [at_other _ _ _ _ q]
  rw [e1] at this
  refine this.congr fun i _ => ?_
  by_cases q : i = k
  · subst q
    rw [at_same]
    exact if_pos (Nat.lt_succ_self _)
  · rw [at_other _ _ _ _ q]
    show (if i < k + 1 then _ else _) = if i < k then _ else _
    by_cases q2 : i < k
    · rw [if_pos (by omega), if_pos q2]
    · rw [if_neg (by omega), if_neg q2]

theorem IsDisk.storeOut {w : World} {g : Nat} {D : DS} {F : Nat → Prop} (h : IsDisk w g D F) (gs k : Nat) (v : Value) (hg : ¬ F gs) : IsDisk (w.setCell ⟨gs, k, none⟩ v) g D F :=
  h.kept (fun i hi => heap_setCell_other w ⟨gs, k, none⟩ i v (fun e => hg (by subst e; exact hi))) (by simp)
end Go.Proofs.Ytagnmmapnpcijaa
