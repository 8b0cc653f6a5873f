/-
  The document's own sets: Mark.
-/
import Derived.Test.YtdneikfocefnfaaRfCut
namespace Go.Proofs.Ytdneikfocefnfaa
open Go.RowKit
section
variable {w w' : World} {B r o : Nat} {t : TypeId} {S S' : SS Int} {F : Nat → Prop} {cs : Array Value} {vR vW vM : Value} {Y : List Value}
theorem IsQ.more (h : IsQ w B r o t S F cs vR vW vM Y) {w3 w4 : World} {v2 vM' : Value} (hb : Below w.heap.size w w3) (hv2 : w3.ownsRow w.heap.size 91 2 v2 S.W.length (prs S.W)) (hg : w3.grownBy w4 vM.ownBlock) (hr : w4.ownsRow B 27 1 vM' (Y.length + 1) (Y ++ [v2])) (hloc : vM'.ownBlock = vM.ownBlock ∨ vM'.ownBlock = some w3.heap.size) (hn : Y.length < 8) :
    w4.cell? ⟨r, o + 2, none⟩ = some vM ∧ w4.frozen? ⟨r, o + 2, none⟩ = false ∧ ToR w B r o t { S with M := S.M ++ [S.W] } F cs (w4.setCell ⟨r, o + 2, none⟩ vM') := by
  have hB := h.hB
  have hlr := h.box.lt
  have h3 := hb.size
  have h4 := hg.size
  have x3 : Box w3 r cs t := h.box.below hb h.box.lt
  have hrM3 : w3.ownsRow B 27 1 vM Y.length Y := ownsRow_below h.rM hb.block
  have x4 : Box w4 r cs t := (hg.block r x3.lt (fun e => row_box hrM3 x3 h.ty.2.2 e.symm)).trans x3
  have x5 := x4.store (o + 2) vM'
  have ho : o + 2 < cs.size := (Array.getElem?_eq_some_iff.1 h.cM).1
  have g5 := grown_store w4 r (o + 2) vM'
  have st : ∀ x, x < w.heap.size → x ≠ r → vM.ownBlock ≠ some x → (w4.setCell ⟨r, o + 2, none⟩ vM').heap[x]? = w.heap[x]? := fun x hx hxr hxm => (heap_setCell_other w4 ⟨r, o + 2, none⟩ x _ hxr).trans ((hg.block x (by omega) (fun e => hxm e.symm)).trans (hb.block x hx))
  have hne : ∀ (e : TypeId) (n sz : Nat) (v : Value) (xs : List Value), w.ownsRow B e sz v n xs → e ≠ 27 → t ≠ e → (∀ x, v.ownBlock = some x → F x) → (w4.setCell ⟨r, o + 2, none⟩ vM').ownsRow B e sz v n xs := fun e n sz v xs hv he ht hf => ownsRow_same hv (fun k hk => st k (h.fB k (hf k hk)).2 (fun e' => row_box hv h.box ht (e' ▸ hk)) (row_ne hv h.rM he hk))
  have hv2b : ∀ x, v2.ownBlock = some x → w.heap.size ≤ x ∧ x < w3.heap.size := fun x hx => hv2.lt x hx
  have hv5 : (w4.setCell ⟨r, o + 2, none⟩ vM').ownsRow B 91 2 v2 S.W.length (prs S.W) := by
    have a1 : w4.ownsRow w.heap.size 91 2 v2 S.W.length (prs S.W) := ownsRow_same hv2 (fun k hk => hg.block k (hv2b k hk).2 (fun e => by
      obtain ⟨c1, b1⟩ := ownsRow_box hrM3 k e.symm
      obtain ⟨c2, b2⟩ := ownsRow_box hv2 k hk
      exact (b1.ne b2 (by decide)) rfl))
    have a2 : (w4.setCell ⟨r, o + 2, none⟩ vM').ownsRow w.heap.size 91 2 v2 S.W.length (prs S.W) := ownsRow_same a1 (fun k hk => heap_setCell_other w4 ⟨r, o + 2, none⟩ k _ (by have := (hv2b k hk).1; show k ≠ r; omega))
    refine ⟨a2.1, ?_⟩
    rcases a2.2 with q | ⟨g, cap, cur, e, q1, q⟩
    · exact .inl q
    · exact .inr ⟨g, cap, cur, e, by omega, q⟩
  have hap := List.pairwise_cons.1 h.ap
  have hsz5 : w.heap.size ≤ (w4.setCell ⟨r, o + 2, none⟩ vM').heap.size := by simp; omega
  refine ⟨(x4.cell _).trans h.cM, x4.frozen _, ⟨cs.setIfInBounds (o + 2) vM', ⟨vR, vW, vM', Y ++ [v2], ?_⟩, by simp, fun j _ _ h1 => Array.getElem?_setIfInBounds_ne (Ne.symm h1)⟩, ?_, hsz5, fun k hk hn => st k hk (fun e => hn (e ▸ h.fr)) (fun e => hn (h.fM k e))⟩
  · exact
      { h with
        box := x5
        cR := by rw [Array.getElem?_setIfInBounds_ne (by omega)]; exact h.cR
        cW := by rw [Array.getElem?_setIfInBounds_ne (by omega)]; exact h.cW
        cM := by simp [ho]
        rR := hne 89 _ _ _ _ h.rR (by decide) h.ty.1 h.fR
        rW := hne 91 _ _ _ _ h.rW (by decide) h.ty.2.1 h.fW
        rM := by
          rw [List.length_append]
          exact ownsRow_same hr (fun k hk => heap_setCell_other w4 ⟨r, o + 2, none⟩ k _ (fun e => row_box hr x4 h.ty.2.2 (by rw [hk]; exact congrArg some e)))
        lM := by have := h.lM; simp; omega
        rY := fun j hj hj' => by
          simp at hj hj'
          by_cases e : j < Y.length
          · have e' : j < S.M.length := by have := h.lM; omega
            simp only [List.getElem_append_left e, List.getElem_append_left e']
            exact hne 91 _ _ _ _ (h.rY j e e') (by decide) h.ty.2.1 (h.fY _ (List.getElem_mem e))
          · have ej : j = Y.length := by omega
            have ej' : j = S.M.length := by have := h.lM; omega
            simp only [List.getElem_append_right (show Y.length ≤ j by omega), List.getElem_append_right (show S.M.length ≤ j by omega), show j - Y.length = 0 by omega, show j - S.M.length = 0 by omega, List.getElem_cons_zero]
            exact hv5
        ap := by
          refine List.pairwise_cons.2 ⟨fun y hy x hx hy' => ?_, List.pairwise_append.2 ⟨hap.2, by simp, fun a ha b hb' x hx hx' => ?_⟩⟩
          · rcases List.mem_append.1 hy with hy | hy
            · exact hap.1 y hy x hx hy'
            · rw [List.mem_singleton] at hy
              subst hy
              have := (hv2b x hy').1
              have := (h.fB x (h.fW x hx)).2
              omega
          · rw [List.mem_singleton] at hb'
            subst hb'
            have := (hv2b x hx').1
            have := (h.fB x (h.fY a ha x hx)).2
            omega
        fr := .inl h.fr
        fR := fun x hx => .inl (h.fR x hx)
        fW := fun x hx => .inl (h.fW x hx)
        fM := fun x hx => by
          rcases hloc with e | e
          · exact .inl (h.fM x (by rw [← e]; exact hx))
          · rw [e] at hx; injection hx with hx
            obtain ⟨c9, b9⟩ := ownsRow_box hr _ e
            have := b9.lt
            exact .inr ⟨by omega, by simp; omega⟩
        fY := fun y hy x hx => by
          rcases List.mem_append.1 hy with hy | hy
          · exact .inl (h.fY y hy x hx)
          · rw [List.mem_singleton] at hy
            subst hy
            have := hv2b x hx
            exact .inr ⟨this.1, by simp; omega⟩
        fB := grow_lt h.fB hB hsz5
        lN := by have := h.lM; simp; omega
        lL := fun L hL => by
          rcases List.mem_append.1 hL with hL | hL
          · exact h.lL L hL
          · rw [List.mem_singleton] at hL; rw [hL]; exact h.lW }
  · exact ((hb.mono hB).grown hg (by omega) (fun k e => (hrM3.lt k e).1)).grown g5 (by omega) (fun k e => by cases e; exact (h.fB r h.fr).1)
end
end Go.Proofs.Ytdneikfocefnfaa
