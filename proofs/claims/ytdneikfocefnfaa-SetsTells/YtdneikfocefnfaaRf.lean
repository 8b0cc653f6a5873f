/-
  The document's own sets in memory: three cells of a block, their rows.
-/
import Derived.Test.YtdneikfocefnfaaRef2
import Derived.Test.YtdneikfocefnfaaRising
namespace Go.Proofs.Ytdneikfocefnfaa
open Go.RowKit
theorem ownsRow_same {w w' : World} {B n : Nat} {e : TypeId} {size : Nat} {v : Value} {xs : List Value} (h : w.ownsRow B e size v n xs) (hs : ∀ k, v.ownBlock = some k → w'.heap[k]? = w.heap[k]?) : w'.ownsRow B e size v n xs := by
  refine ⟨h.1, ?_⟩
  rcases h.2 with h | ⟨g, cap, cur, rfl, hb, hg, r⟩
  · exact .inl h
  · exact .inr ⟨g, cap, cur, rfl, hb, (hs g rfl).trans hg, r⟩
/-- rows of one's own -/
structure IsQ (w : World) (B r o : Nat) (t : TypeId) (S : SS Int) (F : Nat → Prop) (cs : Array Value) (vR vW vM : Value) (Y : List Value) : Prop where
  box : Box w r cs t
  cR : cs[o]? = some vR
  cW : cs[o + 1]? = some vW
  cM : cs[o + 2]? = some vM
  rR : w.ownsRow B 89 2 vR S.R.length (prs S.R)
  rW : w.ownsRow B 91 2 vW S.W.length (prs S.W)
  rM : w.ownsRow B 27 1 vM Y.length Y
  lM : Y.length = S.M.length
  rY : ∀ k (h : k < Y.length) (h' : k < S.M.length), w.ownsRow B 91 2 Y[k] S.M[k].length (prs S.M[k])
  ap : List.Pairwise (fun a b => ∀ x, a.ownBlock = some x → b.ownBlock ≠ some x) (vW :: Y)
  fr : F r
  fR : ∀ x, vR.ownBlock = some x → F x
  fW : ∀ x, vW.ownBlock = some x → F x
  fM : ∀ x, vM.ownBlock = some x → F x
  fY : ∀ y ∈ Y, ∀ x, y.ownBlock = some x → F x
  fB : ∀ x, F x → B ≤ x ∧ x < w.heap.size
  lR : S.R.length ≤ 256
  lW : S.W.length ≤ 256
  lN : S.M.length ≤ 8
  lL : ∀ L ∈ S.M, L.length ≤ 256
  ty : t ≠ 89 ∧ t ≠ 91 ∧ t ≠ 27
def IsR (w : World) (B r o : Nat) (t : TypeId) (S : SS Int) (F : Nat → Prop) (cs : Array Value) : Prop := ∃ vR vW vM Y, IsQ w B r o t S F cs vR vW vM Y
structure ToR (w : World) (B r o : Nat) (t : TypeId) (S : SS Int) (F : Nat → Prop) (cs : Array Value) (w' : World) : Prop where
  is : ∃ cs', IsR w' B r o t S (grow F w w') cs' ∧ cs'.size = cs.size ∧ ∀ j, j ≠ o → j ≠ o + 1 → j ≠ o + 2 → cs'[j]? = cs[j]?
  bel : Below B w w'
  upd : Upd F w w'
section
variable {w w' : World} {B r o : Nat} {t : TypeId} {S S' : SS Int} {F : Nat → Prop} {cs : Array Value} {vR vW vM : Value} {Y : List Value}
theorem IsQ.hB (h : IsQ w B r o t S F cs vR vW vM Y) : B ≤ w.heap.size := by have := h.fB r h.fr; omega
theorem IsQ.stay (h : IsQ w B r o t S F cs vR vW vM Y) (hs : w.heap.size ≤ w'.heap.size) (hF : ∀ x, F x → w'.heap[x]? = w.heap[x]?) : IsQ w' B r o t S F cs vR vW vM Y :=
  { h with
    box := (hF r h.fr).trans h.box
    rR := ownsRow_same h.rR (fun k hk => hF k (h.fR k hk))
    rW := ownsRow_same h.rW (fun k hk => hF k (h.fW k hk))
    rM := ownsRow_same h.rM (fun k hk => hF k (h.fM k hk))
    rY := fun k hk hk' => ownsRow_same (h.rY k hk hk') (fun x hx => hF x (h.fY _ (List.getElem_mem hk) x hx))
    fB := fun x hx => ⟨(h.fB x hx).1, Nat.lt_of_lt_of_le (h.fB x hx).2 hs⟩ }
theorem IsQ.wide {F' : Nat → Prop} (h : IsQ w B r o t S F cs vR vW vM Y) (hF : ∀ x, F x → F' x) (hB : ∀ x, F' x → B ≤ x ∧ x < w.heap.size) : IsQ w B r o t S F' cs vR vW vM Y :=
  { h with fr := hF r h.fr, fR := fun x hx => hF x (h.fR x hx), fW := fun x hx => hF x (h.fW x hx), fM := fun x hx => hF x (h.fM x hx), fY := fun y hy x hx => hF x (h.fY y hy x hx), fB := hB }
theorem IsR.upd {F' : Nat → Prop} (h : IsR w B r o t S F cs) (hu : Upd F' w w') (hF : ∀ x, F x → ¬ F' x) : IsR w' B r o t S F cs := by
  obtain ⟨vR, vW, vM, Y, h⟩ := h
  exact ⟨vR, vW, vM, Y, h.stay hu.1 (fun x hx => hu.2 x (h.fB x hx).2 (hF x hx))⟩
theorem IsR.below (h : IsR w B r o t S F cs) (hb : Below w.heap.size w w') : IsR w' B r o t S F cs := by
  obtain ⟨vR, vW, vM, Y, h⟩ := h
  exact ⟨vR, vW, vM, Y, h.stay hb.size (fun x hx => hb.block x (h.fB x hx).2)⟩
theorem IsR.fB (h : IsR w B r o t S F cs) : ∀ x, F x → B ≤ x ∧ x < w.heap.size := by
  obtain ⟨vR, vW, vM, Y, h⟩ := h
  exact h.fB
theorem ToR.refl (h : IsR w B r o t S F cs) : ToR w B r o t S F cs w := by
  obtain ⟨vR, vW, vM, Y, h⟩ := h
  exact ⟨⟨cs, ⟨vR, vW, vM, Y, h.wide (fun _ hx => .inl hx) (grow_lt h.fB h.hB (Nat.le_refl _))⟩, rfl, fun _ _ _ _ => rfl⟩, Below.refl _ _, Upd.refl _ _⟩
/-- a row's block is not the sets' own, nor one of another type -/
theorem row_ne {e e' : TypeId} {n n' sz sz' : Nat} {v v' : Value} {xs xs' : List Value} (h : w.ownsRow B e sz v n xs) (h' : w.ownsRow B e' sz' v' n' xs') (he : e ≠ e') {x : Nat} (hx : v.ownBlock = some x) : v'.ownBlock ≠ some x := fun hx' => by
  obtain ⟨c1, b1⟩ := ownsRow_box h x hx
  obtain ⟨c2, b2⟩ := ownsRow_box h' x hx'
  exact (b1.ne b2 he) rfl
theorem row_box {e : TypeId} {n sz : Nat} {v : Value} {xs : List Value} (h : w.ownsRow B e sz v n xs) (hb : Box w r cs t) (he : t ≠ e) : v.ownBlock ≠ some r := fun hx => by
  obtain ⟨c1, b1⟩ := ownsRow_box h r hx
  exact (hb.ne b1 he) rfl
/-- the reads' row is another one -/
theorem IsQ.newR (h : IsQ w B r o t S F cs vR vW vM Y) {v' : Value} {R' : List (Int × Int)} (hb : Box w' r (cs.setIfInBounds o v') t) (hr : w'.ownsRow B 89 2 v' R'.length (prs R')) (hv : v'.ownBlock = vR.ownBlock ∨ ∃ k, v'.ownBlock = some k ∧ w.heap.size ≤ k) (st : ∀ k, k < w.heap.size → k ≠ r → vR.ownBlock ≠ some k → w'.heap[k]? = w.heap[k]?) (hs : w.heap.size ≤ w'.heap.size) (bel : Below B w w') (hl : R'.length ≤ 256) : ToR w B r o t { S with R := R' } F cs w' := by
  have hne : ∀ (e : TypeId) (n sz : Nat) (v : Value) (xs : List Value), w.ownsRow B e sz v n xs → e ≠ 89 → t ≠ e → (∀ x, v.ownBlock = some x → F x) → w'.ownsRow B e sz v n xs := fun e n sz v xs hv he ht hf => ownsRow_same hv (fun k hk => st k (h.fB k (hf k hk)).2 (fun e' => row_box hv h.box ht (e' ▸ hk)) (row_ne hv h.rR he hk))
  have ho : o < cs.size := (Array.getElem?_eq_some_iff.1 h.cR).1
  refine ⟨⟨cs.setIfInBounds o v', ⟨v', vW, vM, Y, ?_⟩, by simp, fun j h1 _ _ => Array.getElem?_setIfInBounds_ne (Ne.symm h1)⟩, bel, hs, fun k hk hn => st k hk (fun e => hn (e ▸ h.fr)) (fun e => hn (h.fR k e))⟩
  exact
    { h with
      box := hb
      cR := by simp [ho]
      cW := by rw [Array.getElem?_setIfInBounds_ne (by omega)]; exact h.cW
      cM := by rw [Array.getElem?_setIfInBounds_ne (by omega)]; exact h.cM
      rR := hr
      rW := hne 91 _ _ _ _ h.rW (by decide) h.ty.2.1 h.fW
      rM := hne 27 _ _ _ _ h.rM (by decide) h.ty.2.2 h.fM
      rY := fun k hk hk' => hne 91 _ _ _ _ (h.rY k hk hk') (by decide) h.ty.2.1 (h.fY _ (List.getElem_mem hk))
      fr := .inl h.fr
      fR := fun x hx => by
        rcases hv with e | ⟨k, e, hk⟩
        · exact .inl (h.fR x (by rw [← e]; exact hx))
        · rw [e] at hx; injection hx with hx
          subst hx
          obtain ⟨c, b⟩ := ownsRow_box hr k e
          exact .inr ⟨hk, b.lt⟩
      fW := fun x hx => .inl (h.fW x hx)
      fM := fun x hx => .inl (h.fM x hx)
      fY := fun y hy x hx => .inl (h.fY y hy x hx)
      fB := grow_lt h.fB h.hB hs
      lR := hl }
/-- the writes' row is another one -/
theorem IsQ.newW (h : IsQ w B r o t S F cs vR vW vM Y) {v' : Value} {W' : List (Int × Int)} (hb : Box w' r (cs.setIfInBounds (o + 1) v') t) (hr : w'.ownsRow B 91 2 v' W'.length (prs W')) (hv : v'.ownBlock = vW.ownBlock ∨ ∃ k, v'.ownBlock = some k ∧ w.heap.size ≤ k) (st : ∀ k, k < w.heap.size → k ≠ r → vW.ownBlock ≠ some k → w'.heap[k]? = w.heap[k]?) (hs : w.heap.size ≤ w'.heap.size) (bel : Below B w w') (hl : W'.length ≤ 256) : ToR w B r o t { S with W := W' } F cs w' := by
  have hne : ∀ (e : TypeId) (n sz : Nat) (v : Value) (xs : List Value), w.ownsRow B e sz v n xs → t ≠ e → (∀ x, v.ownBlock = some x → F x) → (∀ x, v.ownBlock = some x → vW.ownBlock ≠ some x) → w'.ownsRow B e sz v n xs := fun e n sz v xs hv ht hf ha => ownsRow_same hv (fun k hk => st k (h.fB k (hf k hk)).2 (fun e' => row_box hv h.box ht (e' ▸ hk)) (ha k hk))
  have ho : o + 1 < cs.size := (Array.getElem?_eq_some_iff.1 h.cW).1
  have hap := List.pairwise_cons.1 h.ap
  refine ⟨⟨cs.setIfInBounds (o + 1) v', ⟨vR, v', vM, Y, ?_⟩, by simp, fun j _ h1 _ => Array.getElem?_setIfInBounds_ne (Ne.symm h1)⟩, bel, hs, fun k hk hn => st k hk (fun e => hn (e ▸ h.fr)) (fun e => hn (h.fW k e))⟩
  have fW' : ∀ x, v'.ownBlock = some x → vW.ownBlock = some x ∨ w.heap.size ≤ x ∧ x < w'.heap.size := fun x hx => by
    rcases hv with e | ⟨k, e, hk⟩
    · exact .inl (by rw [← e]; exact hx)
    · rw [e] at hx; injection hx with hx
      subst hx
      obtain ⟨c, b⟩ := ownsRow_box hr k e
      exact .inr ⟨hk, b.lt⟩
  exact
    { h with
      box := hb
      cR := by rw [Array.getElem?_setIfInBounds_ne (by omega)]; exact h.cR
      cW := by simp [ho]
      cM := by rw [Array.getElem?_setIfInBounds_ne (by omega)]; exact h.cM
      rR := hne 89 _ _ _ _ h.rR h.ty.1 h.fR (fun x hx => row_ne h.rR h.rW (by decide) hx)
      rW := hr
      rM := hne 27 _ _ _ _ h.rM h.ty.2.2 h.fM (fun x hx => row_ne h.rM h.rW (by decide) hx)
      rY := fun k hk hk' => hne 91 _ _ _ _ (h.rY k hk hk') h.ty.2.1 (h.fY _ (List.getElem_mem hk)) (fun x hx e => hap.1 _ (List.getElem_mem hk) x e hx)
      ap := List.pairwise_cons.2 ⟨fun y hy x hx hy' => by
        rcases fW' x hx with e | e
        · exact hap.1 y hy x e hy'
        · have := (h.fB x (h.fY y hy x hy')).2
          omega, hap.2⟩
      fr := .inl h.fr
      fR := fun x hx => .inl (h.fR x hx)
      fW := fun x hx => (fW' x hx).imp (h.fW x) id
      fM := fun x hx => .inl (h.fM x hx)
      fY := fun y hy x hx => .inl (h.fY y hy x hx)
      fB := grow_lt h.fB h.hB hs
      lW := hl }
end
end Go.Proofs.Ytdneikfocefnfaa
