/-
  What every block was written since the last flush: four piles.
-/
import Derived.Test.YtagnmmapnpcijaaPile
namespace Go.Proofs.Ytagnmmapnpcijaa
open Go.RowKit

structure Since (w0 w : World) (F : Nat → Prop) (gs : Nat) (xf : Nat → List (List UInt8)) (gf : Nat → Nat) (vf : Nat → Value) : Prop where
  box : Box w gs #[vf 0, vf 1, vf 2, vf 3] 46
  gs0 : w0.heap.size ≤ gs
  gsF : ¬ F gs
  g0 : ∀ k, k < 4 → w0.heap.size ≤ gf k
  pile : ∀ k, k < 4 → Pile w F (gf k) (vf k) (xf k)
  one : ∀ k, k < 4 → 0 < (xf k).length
  apart : ∀ k, k < 4 → ∀ l, l < 4 → k ≠ l → gf k ≠ gf l

def at_ {α : Type} (f : Nat → α) (k : Nat) (x : α) : Nat → α := fun i => if i = k then x else f i
theorem at_same {α : Type} (f : Nat → α) (k : Nat) (x : α) : at_ f k x k = x := if_pos rfl
theorem at_other {α : Type} (f : Nat → α) (k i : Nat) (x : α) (h : i ≠ k) : at_ f k x i = f i := if_neg h

theorem Since.upd {w0 w w' : World} {F F' : Nat → Prop} {gs : Nat} {xf : Nat → List (List UInt8)} {gf : Nat → Nat} {vf : Nat → Value} (h : Since w0 w F gs xf gf vf) (u : Upd F w w') (hF : ∀ i, F' i → F i ∨ w.heap.size ≤ i) : Since w0 w' F' gs xf gf vf where
  box := (u.block gs h.box.lt h.gsF).trans h.box
  gs0 := h.gs0
  gsF := fun hf => by rcases hF gs hf with h1 | h1; exact h.gsF h1; have := h.box.lt; omega
  g0 := h.g0
  pile := fun k hk => (h.pile k hk).upd u hF
  one := h.one
  apart := h.apart
theorem Since.below {w0 w w' : World} {F : Nat → Prop} {gs : Nat} {xf : Nat → List (List UInt8)} {gf : Nat → Nat} {vf : Nat → Value} (h : Since w0 w F gs xf gf vf) (b : Below w.heap.size w w') : Since w0 w' F gs xf gf vf :=
  h.upd (Upd.of_below b) (fun _ h => .inl h)

theorem four_set (vf : Nat → Value) (k : Nat) (hk : k < 4) (v : Value) : (#[vf 0, vf 1, vf 2, vf 3] : Array Value).setIfInBounds k v = #[at_ vf k v 0, at_ vf k v 1, at_ vf k v 2, at_ vf k v 3] := by
  match k, hk with
  | 0, _ => rfl
  | 1, _ => rfl
  | 2, _ => rfl
  | 3, _ => rfl
theorem four_get (vf : Nat → Value) (k : Nat) (hk : k < 4) : (#[vf 0, vf 1, vf 2, vf 3] : Array Value)[k]? = some (vf k) := by
  match k, hk with
  | 0, _ => rfl
  | 1, _ => rfl
  | 2, _ => rfl
  | 3, _ => rfl
theorem Pile.box {w : World} {F : Nat → Prop} {g : Nat} {v : Value} {xs : List (List UInt8)} (h : Pile w F g v xs) : ∃ cur, Box w g cur 27 := by
  obtain ⟨o, cap, cur, _, hb, _⟩ := h
  exact ⟨cur, hb⟩

/-- a pile takes the place of one: in its block, or in a new one -/
theorem Since.put {w0 w w' : World} {F : Nat → Prop} {gs : Nat} {xf : Nat → List (List UInt8)} {gf : Nat → Nat} {vf : Nat → Value} (h : Since w0 w F gs xf gf vf) (k : Nat) (hk : k < 4) (g' : Nat) (v' : Value) (xs' : List (List UInt8)) (hp : Pile w' F g' v' xs') (gr : w.grownBy w' (some (gf k))) (hg : g' = gf k ∨ w.heap.size ≤ g') (h0 : 0 < xs'.length) (hsz : w0.heap.size ≤ w.heap.size) :
    Since w0 (w'.setCell ⟨gs, k, none⟩ v') F gs (at_ xf k xs') (at_ gf k g') (at_ vf k v') := by
  obtain ⟨ck, hbk⟩ := (h.pile k hk).box
  have hne : gs ≠ gf k := h.box.ne hbk (by decide)
  have box1 : Box w' gs #[vf 0, vf 1, vf 2, vf 3] 46 := (gr.block gs h.box.lt (fun e => hne (by simpa using e))).trans h.box
  have gr2 : w'.grownBy (w'.setCell ⟨gs, k, none⟩ v') (some gs) := grown_store w' gs k v'
  have lt : ∀ l, l < 4 → gf l < w.heap.size := fun l hl => by obtain ⟨c, hb⟩ := (h.pile l hl).box; exact hb.lt
  refine ⟨?_, h.gs0, h.gsF, fun l hl => ?_, fun l hl => ?_, fun l hl => ?_, fun l hl m hm hlm => ?_⟩
  · rw [← four_set vf k hk v']
    exact box1.store k v'
  · by_cases e : l = k
    · subst e
      rw [at_same]
      rcases hg with rfl | hg
      · exact h.g0 l hl
      · omega
    · rw [at_other _ _ _ _ e]
      exact h.g0 l hl
  · by_cases e : l = k
    · subst e
      rw [at_same, at_same, at_same]
      obtain ⟨c', hb'⟩ := hp.box
      exact hp.other box1 (by decide) (hb'.ne box1 (by decide)) gr2
    · rw [at_other _ _ _ _ e, at_other _ _ _ _ e, at_other _ _ _ _ e]
      have p1 := (h.pile l hl).other hbk (by decide) (h.apart l hl k hk e) gr
      obtain ⟨c', hb'⟩ := p1.box
      exact p1.other box1 (by decide) (hb'.ne box1 (by decide)) gr2
  · by_cases e : l = k
    · subst e
      rw [at_same]
      exact h0
    · rw [at_other _ _ _ _ e]
      exact h.one l hl
  · by_cases e : l = k
    · subst e
      rw [at_same, at_other _ _ _ _ (fun e => hlm e.symm)]
      rcases hg with rfl | hg
      · exact h.apart l hl m hm hlm
      · have := lt m hm; omega
    · rw [at_other _ _ _ _ e]
      by_cases e2 : m = k
      · subst e2
        rw [at_same]
        rcases hg with rfl | hg
        · exact h.apart l hl m hm hlm
        · have := lt l hl; omega
      · rw [at_other _ _ _ _ e2]
        exact h.apart l hl m hm hlm

/-- the last of a pile alone -/
theorem Pile.cut {w : World} {F : Nat → Prop} {g : Nat} {v : Value} {xs : List (List UInt8)} (h : Pile w F g v xs) (h0 : 0 < xs.length) :
    ∃ o cap, v = .slice (some ⟨g, o, none⟩) xs.length cap ∧ xs.length ≤ cap ∧ cap ≤ maxLen ∧ Pile w F g (.slice (some ⟨g, o + (xs.length - 1), none⟩) 1 (cap - (xs.length - 1))) [xs[xs.length - 1]'(by omega)] := by
  obtain ⟨o, cap, cur, rfl, hb, h1, h2, h3, hgF, he⟩ := h
  refine ⟨o, cap, rfl, h1, h3, o + (xs.length - 1), cap - (xs.length - 1), cur, rfl, hb, by simp; omega, by omega, by omega, hgF, fun j hj => ?_⟩
  have : j = 0 := by simp at hj; omega
  subst this
  obtain ⟨p, c, hc, hr, hp⟩ := he (xs.length - 1) (by omega)
  exact ⟨p, c, by rw [Nat.add_zero]; exact hc, hr, hp⟩

/-- a block's bytes: as they are durable, then each unflushed write of it -/
def sinceOf (D : DS) (k : Nat) : List (List UInt8) := blk D.dur k :: (D.uf.filter (fun w => w.1 == k)).map (·.2)
theorem sinceOf_write (D : DS) (b k : Nat) (x : List UInt8) : sinceOf { D with uf := D.uf ++ [(b, x)], n := D.n + 1 } k = if k = b then sinceOf D k ++ [x] else sinceOf D k := by
  unfold sinceOf
  simp only [List.filter_append, List.map_append]
  by_cases e : k = b
  · subst e
    simp
  · have : (b == k) = false := by simp; omega
    simp [this, e]
theorem blk_carryTo (uf : List (Nat × List UInt8)) (d : List UInt8) (nb k : Nat) (hk : k < nb) (hd : d.length = nb * 4096) (hu : ∀ w ∈ uf, w.1 < nb ∧ w.2.length = 4096) : ∀ n, n ≤ uf.length → (carryTo uf d n).length = nb * 4096 ∧ blk (carryTo uf d n) k = (lastOf uf k n).getD (blk d k)
  | 0, _ => ⟨hd, rfl⟩
  | n + 1, h => by
    obtain ⟨ih1, ih2⟩ := blk_carryTo uf d nb k hk hd hu n (by omega)
    have hg : uf[n]? = some uf[n] := List.getElem?_eq_getElem (by omega)
    obtain ⟨hw1, hw2⟩ := hu uf[n] (List.getElem_mem (by omega))
    have hfit : uf[n].1 * 4096 + 4096 ≤ (carryTo uf d n).length := by rw [ih1]; omega
    rw [carryTo, lastOf, hg]
    refine ⟨?_, ?_⟩
    · show (carry (carryTo uf d n) uf[n].1 uf[n].2 255).length = _
      rw [carry_length _ _ _ _ hfit hw2, ih1]
    · show blk (carry (carryTo uf d n) uf[n].1 uf[n].2 255) k = (if uf[n].1 = k then some uf[n].2 else lastOf uf k n).getD (blk d k)
      by_cases e : uf[n].1 = k
      · rw [if_pos e, ← e, blk_carry_all _ _ _ hfit hw2]
        rfl
      · rw [if_neg e, blk_carry_other _ _ _ _ _ hfit hw2 (fun h => e h.symm), ih2]
end Go.Proofs.Ytagnmmapnpcijaa
