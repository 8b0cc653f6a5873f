/-
  The document's own sets: a mark is taken away; one more.
-/
import Derived.Test.YtdneikfocefnfaaRfOps
import Derived.Test.YtdneikfocefnfaaLate
namespace Go.Proofs.Ytdneikfocefnfaa
open Go.RowKit
section
variable {w w' : World} {B r o gM k c : Nat} {t : TypeId} {S S' : SS Int} {F : Nat → Prop} {cs : Array Value} {vR vW vM : Value} {Y : List Value}
theorem ToR.drew (h : ToR w.drew B r o t S F cs w') : ToR w B r o t S F cs w' := ⟨h.is, ⟨h.bel.os, h.bel.tape, h.bel.output, h.bel.size, h.bel.block⟩, h.upd.1, h.upd.2⟩
theorem cut_row {e : TypeId} (h : w.ownsRow B e 1 (.slice (some ⟨gM, 0, none⟩) (k + 1) c) (k + 1) Y) : w.ownsRow B e 1 (.slice (some ⟨gM, 0, none⟩) k c) k Y.dropLast := by
  have h1 := h.1
  rcases h.2 with ⟨e, _⟩ | ⟨g, cap, cur, e, a1, a2, a3, a4, a5, a6⟩
  · cases e
  · injection e with e1 e2 e3
    injection e1 with e1
    injection e1 with e1
    subst e1
    subst e3
    refine ⟨by simp; omega, .inr ⟨gM, c, cur, rfl, a1, a2, by omega, a4, a5, ?_⟩⟩
    rw [List.dropLast_eq_take, ← a6, List.take_take]
    congr 1
    simp at h1 ⊢
    omega
theorem IsQ.len (h : IsQ w B r o t S F cs vR vW vM Y) (hk : S.M.length ≠ 0) : ∃ k gM c, Y.length = k + 1 ∧ S.M.length = k + 1 ∧ k ≤ 7 ∧ vM = .slice (some ⟨gM, 0, none⟩) (k + 1) c ∧ k + 1 ≤ c := by
  have h1 := h.lM
  have h2 := h.lN
  obtain ⟨k, hk'⟩ : ∃ k, Y.length = k + 1 := ⟨Y.length - 1, by omega⟩
  rcases h.rM.2 with ⟨_, e⟩ | ⟨g, cap, cur, e, a1, a2, a3, a4, a5, a6⟩
  · omega
  · exact ⟨k, g, cap, hk', by omega, by omega, by rw [e, hk'], by omega⟩
theorem IsQ.cut (h : IsQ w B r o t S F cs vR vW (.slice (some ⟨gM, 0, none⟩) (k + 1) c) Y) (hk : Y.length = k + 1) (hb : Below B w w') (hu : Upd F w w') (hr : w'.heap[r]? = some (.cells ((cs.setIfInBounds (o + 2) (.slice (some ⟨gM, 0, none⟩) k c))) t (0, 0))) (hst : ∀ x, x < w.heap.size → x ≠ r → w'.heap[x]? = w.heap[x]?) : ToR w B r o t { S with M := S.M.dropLast } F cs w' := by
  have st : ∀ (e : TypeId) (n sz : Nat) (v : Value) (xs : List Value), w.ownsRow B e sz v n xs → t ≠ e → (∀ x, v.ownBlock = some x → F x) → w'.ownsRow B e sz v n xs := fun e n sz v xs hv ht hf => ownsRow_same hv (fun x hx => hst x (h.fB x (hf x hx)).2 (fun e' => row_box hv h.box ht (e' ▸ hx)))
  have ho : o + 2 < cs.size := (Array.getElem?_eq_some_iff.1 h.cM).1
  have hrM := h.rM
  rw [hk] at hrM
  have hc := cut_row hrM
  have hdl : Y.dropLast.length = k := by simp; omega
  refine ⟨⟨cs.setIfInBounds (o + 2) (.slice (some ⟨gM, 0, none⟩) k c), ⟨vR, vW, .slice (some ⟨gM, 0, none⟩) k c, Y.dropLast, ?_⟩, by simp, fun j _ _ h1 => Array.getElem?_setIfInBounds_ne (Ne.symm h1)⟩, hb, hu⟩
  exact
    { h with
      box := hr
      cR := by rw [Array.getElem?_setIfInBounds_ne (by omega)]; exact h.cR
      cW := by rw [Array.getElem?_setIfInBounds_ne (by omega)]; exact h.cW
      cM := by simp [ho]
      rR := st 89 _ _ _ _ h.rR h.ty.1 h.fR
      rW := st 91 _ _ _ _ h.rW h.ty.2.1 h.fW
      rM := by rw [hdl]; exact st 27 _ _ _ _ hc h.ty.2.2 (fun x hx => h.fM x hx)
      lM := by have := h.lM; simp; omega
      rY := fun j hj hj' => by
        simp at hj hj'
        simp only [List.getElem_dropLast]
        exact st 91 _ _ _ _ (h.rY j (by omega) (by omega)) h.ty.2.1 (h.fY _ (List.getElem_mem (by omega)))
      ap := List.Pairwise.sublist (List.Sublist.cons_cons _ (List.dropLast_sublist Y)) h.ap
      fr := .inl h.fr
      fR := fun x hx => .inl (h.fR x hx)
      fW := fun x hx => .inl (h.fW x hx)
      fM := fun x hx => .inl (h.fM x hx)
      fY := fun y hy x hx => .inl (h.fY y (List.dropLast_sublist Y |>.subset hy) x hx)
      fB := grow_lt h.fB h.hB hu.1
      lN := by have := h.lN; simp; omega
      lL := fun L hL => h.lL L (List.dropLast_sublist S.M |>.subset hL) }
theorem IsQ.back (h : IsQ w B r o t S F cs vR vW (.slice (some ⟨gM, 0, none⟩) (k + 1) c) Y) (hk : Y.length = k + 1) (hb : Below B w w') (hu : Upd F w w') (hr : w'.heap[r]? = some (.cells ((cs.setIfInBounds (o + 1) (Y[k]'(by omega))).setIfInBounds (o + 2) (.slice (some ⟨gM, 0, none⟩) k c)) t (0, 0))) (hst : ∀ x, x < w.heap.size → x ≠ r → w'.heap[x]? = w.heap[x]?) : ToR w B r o t { S with W := S.M.getLastD [], M := S.M.dropLast } F cs w' := by
  have hlm := h.lM
  have st : ∀ (e : TypeId) (n sz : Nat) (v : Value) (xs : List Value), w.ownsRow B e sz v n xs → t ≠ e → (∀ x, v.ownBlock = some x → F x) → w'.ownsRow B e sz v n xs := fun e n sz v xs hv ht hf => ownsRow_same hv (fun x hx => hst x (h.fB x (hf x hx)).2 (fun e' => row_box hv h.box ht (e' ▸ hx)))
  have ho : o + 2 < cs.size := (Array.getElem?_eq_some_iff.1 h.cM).1
  have ho1 : o + 1 < cs.size := by omega
  have hrM := h.rM
  rw [hk] at hrM
  have hc := cut_row hrM
  have hdl : Y.dropLast.length = k := by simp; omega
  have hyk : Y[k]'(by omega) ∈ Y := List.getElem_mem _
  have hgl : S.M.getLastD [] = S.M[k]'(by omega) := by
    rw [List.getLastD_eq_getLast?, List.getLast?_eq_getElem?]
    rw [show S.M.length - 1 = k by omega, List.getElem?_eq_getElem (by omega)]
    rfl
  have hap := List.pairwise_cons.1 h.ap
  have hYe : Y = Y.dropLast ++ [Y[k]'(by omega)] := by
    have hne : Y ≠ [] := by intro e; simp [e] at hk
    have := List.dropLast_concat_getLast hne
    rw [List.getLast_eq_getElem] at this
    simp only [show Y.length - 1 = k by omega] at this
    exact this.symm
  refine ⟨⟨(cs.setIfInBounds (o + 1) (Y[k]'(by omega))).setIfInBounds (o + 2) (.slice (some ⟨gM, 0, none⟩) k c), ⟨vR, Y[k]'(by omega), .slice (some ⟨gM, 0, none⟩) k c, Y.dropLast, ?_⟩, by simp, fun j _ h0 h1 => by rw [Array.getElem?_setIfInBounds_ne (Ne.symm h1), Array.getElem?_setIfInBounds_ne (Ne.symm h0)]⟩, hb, hu⟩
  exact
    { h with
      box := hr
      cR := by rw [Array.getElem?_setIfInBounds_ne (by omega), Array.getElem?_setIfInBounds_ne (by omega)]; exact h.cR
      cW := by rw [Array.getElem?_setIfInBounds_ne (by omega)]; simp [ho1]
      cM := by simp [ho]
      rR := st 89 _ _ _ _ h.rR h.ty.1 h.fR
      rW := by
        show w'.ownsRow B 91 2 _ (S.M.getLastD []).length (prs (S.M.getLastD []))
        rw [hgl]
        exact st 91 _ _ _ _ (h.rY k (by omega) (by omega)) h.ty.2.1 (h.fY _ hyk)
      rM := by rw [hdl]; exact st 27 _ _ _ _ hc h.ty.2.2 (fun x hx => h.fM x hx)
      lM := by simp; omega
      rY := fun j hj hj' => by
        simp at hj hj'
        simp only [List.getElem_dropLast]
        exact st 91 _ _ _ _ (h.rY j (by omega) (by omega)) h.ty.2.1 (h.fY _ (List.getElem_mem (by omega)))
      ap := by
        have h2 := hap.2
        rw [hYe] at h2
        have h3 := List.pairwise_append.1 h2
        exact List.pairwise_cons.2 ⟨fun y hy x hx hy' => h3.2.2 y hy _ (List.mem_singleton.2 rfl) x hy' hx, h3.1⟩
      fr := .inl h.fr
      fR := fun x hx => .inl (h.fR x hx)
      fW := fun x hx => .inl (h.fY _ hyk x hx)
      fM := fun x hx => .inl (h.fM x hx)
      fY := fun y hy x hx => .inl (h.fY y (List.dropLast_sublist Y |>.subset hy) x hx)
      fB := grow_lt h.fB h.hB hu.1
      lW := by show (S.M.getLastD []).length ≤ 256; rw [hgl]; exact h.lL _ (List.getElem_mem _)
      lN := by have := h.lN; simp; omega
      lL := fun L hL => h.lL L (List.dropLast_sublist S.M |>.subset hL) }
end
end Go.Proofs.Ytdneikfocefnfaa
