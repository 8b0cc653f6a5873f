/-
  A table and the map beside it; what an end leaves.
-/
import Derived.Test.YtlbjalodjcajfaaGreatRun
import Derived.Test.YtlbjalodjcajfaaGreatWnt
import Derived.Test.YtlbjalodjcajfaaGreatSis
namespace Go.Proofs.YtlbjalodjcajfaaGreat
open Go.RowKit Go.Maps Go.Sort
section
variable {w0 u u' : World} {x t base n sz m g : Nat} {k : Int} {V : List En} {K : List Bx} {P : List Pr} {wb : Nat} {o o' : Obj}
/-- the map's block is another one -/
theorem HasT.remap (h : HasT (m, g, k, [(wb, o)]) w0 u x 1 V K) (hc : Chg (fun y => y = wb) u u') (ho : u'.heap[wb]? = some o') (hm : ∃ es cl, o' = .map es cl) (hB : w0.heap.size ≤ wb) : HasT (m, g, k, [(wb, o')]) w0 u' x 1 V K := by
  obtain ⟨s, n, C, S, Fs, h⟩ := h
  obtain ⟨k1, k2, k3⟩ := h.ko _ (List.mem_singleton_self _)
  simp only at k1 k2 k3
  have st : ∀ y cs t, Box u y cs t → Box u' y cs t := fun y cs t hb => hb.chg hc (fun e => map_ne k1 k2 hb e.symm)
  exact ⟨s, n, C, S, Fs,
    { h with
      bx := st _ _ _ h.bx
      bm := st _ _ _ h.bm
      bg := st _ _ _ h.bg
      hs := h.hs.stay hc.size (fun y hy => hc.block y (h.hs.fB y hy).2 (fun e => k3 (e ▸ hy)))
      bK := fun y hy => st _ _ _ (h.bK y hy)
      ko := fun y hy => by
        rw [List.mem_singleton] at hy
        subst hy
        exact ⟨ho, hm, k3⟩
      bel := h.bel.trans (hc.below h.bel.size (fun y e => by rw [e]; exact hB)) }⟩
theorem IsW.obj {N : Nat} (h : IsW u wb N P) : ∃ es cl, u.heap[wb]? = some (.map es cl) := by
  obtain ⟨es, cl, h1, _⟩ := MapS.clone h
  exact ⟨es, cl, h1⟩
/-- a table that holds P, and the map of P beside it -/
def TW (w0 u : World) (m g : Nat) (k : Int) (wb x t base n sz : Nat) (P Q : List Pr) (N : Nat) (K : List Bx) : Prop := ∃ o V, HasP (m, g, k, [(wb, o)]) w0 u x t base n sz P K V ∧ IsW u wb N Q ∧ w0.heap.size ≤ wb
variable {Q : List Pr} {N : Nat}
theorem TW.want (h : TW w0 u m g k wb x t base n sz P Q N K) : IsW u wb N Q := by
  obtain ⟨o, V, h1, h2, h3⟩ := h
  exact h2
theorem HasP.map (h : HasP (m, g, k, [(wb, o)]) w0 u x t base n sz P K V) : u.heap[wb]? = some o := by
  obtain ⟨s, n', C, S, Fs, h⟩ := h.h
  exact (h.ko _ (List.mem_singleton_self _)).1
theorem TW.keep {P' : List Pr} {K' : List Bx} (h : TW w0 u m g k wb x t base n sz P Q N K) (h' : ∀ o V, HasP (m, g, k, [(wb, o)]) w0 u x t base n sz P K V → ∃ W, HasP (m, g, k, [(wb, o)]) w0 u' x t base n sz P' K' W) : TW w0 u' m g k wb x t base n sz P' Q N K' := by
  obtain ⟨o, V, h1, h2, h3⟩ := h
  obtain ⟨V', h4⟩ := h' o V h1
  exact ⟨o, V', h4, h2.stay (h4.map.trans h1.map.symm), h3⟩
theorem TW.below (h : TW w0 u m g k wb x t base n sz P Q N K) (hb : Below u.heap.size u u') : TW w0 u' m g k wb x t base n sz P Q N K := by
  obtain ⟨o, V, h1, h2, h3⟩ := h
  exact ⟨o, V, h1.below hb, h2.stay (hb.block wb h2.lt), h3⟩
theorem TW.bel (h : TW w0 u m g k wb x t base n sz P Q N K) : Below w0.heap.size w0 u := by
  obtain ⟨o, V, h1, _⟩ := h
  exact h1.h.bel
theorem TW.asc (h : TW w0 u m g k wb x t base n sz P Q N K) : Asc P := by
  obtain ⟨o, V, h1, _⟩ := h
  exact h1.asc
theorem TW.bK (h : TW w0 u m g k wb x t base n sz P Q N K) : AllB u K := by
  obtain ⟨o, V, h1, _⟩ := h
  exact h1.h.bK
theorem TW.box (h : TW w0 u m g k wb x t base n sz P Q N K) (cs : Array Value) (ty : TypeId) : TW w0 (u.alloc (.cells cs ty)) m g k wb x t base n sz P Q N ((u.heap.size, cs, ty) :: K) := by
  obtain ⟨o, V, h1, h2, h3⟩ := h
  exact ⟨o, V, h1.keep (h1.h.box cs ty) (List.mem_cons_of_mem _ h1.tk), h2.stay (Below.heap_alloc _ _ _ h2.lt), h3⟩
theorem TW.less (h : TW w0 u m g k wb x t base n sz P Q N K) {K' : List Bx} (hs : ∀ y ∈ K', y ∈ K) (ht : tb t x base n ∈ K') : TW w0 u m g k wb x t base n sz P Q N K' := by
  obtain ⟨o, V, h1, h2, h3⟩ := h
  exact ⟨o, V, h1.keep (h1.h.less hs) ht, h2, h3⟩
/-- the map is written -/
theorem TW.grown {Q' : List Pr} {N' : Nat} (h : TW w0 u m g k wb x t base n sz P Q N K) (hw : IsW u' wb N' Q') (hg : u.grownBy u' (some wb)) : TW w0 u' m g k wb x t base n sz P Q' N' K := by
  obtain ⟨o, V, h1, h2, h3⟩ := h
  obtain ⟨es, cl, he⟩ := hw.obj
  have hc : Chg (fun y => y = wb) u u' := (Chg.ofGrown hg).mono (fun _ _ e => (Option.some.inj e).symm)
  exact ⟨.map es cl, V, ⟨h1.h.remap hc he ⟨es, cl, rfl⟩ h3, h1.tk, h1.n1, h1.vl, h1.hb, h1.sg, h1.asc, h1.le⟩, hw, h3⟩
theorem TW.put (h : TW w0 u m g k wb x t base n sz P Q N K) (hl : P.length < n) (key val : ByteArray) : Calls Tryz.prog 7 #[ptr t, .string key, .string val] u fun r w' => r = .returned (.int .i64 0) ∧ TW w0 w' m g k wb x t base n sz (insP P key val) Q N K := by
  have hp : putP n P key val = (0, insP P key val) := by unfold putP; rw [if_pos (.inr hl)]
  obtain ⟨o, V, h1, h2, h3⟩ := h
  have := h1.put key val
  rw [hp] at this
  exact this.mono (fun r w' ⟨e, V', h'⟩ => ⟨e, o, V', h', h2.stay (h'.map.trans h1.map.symm), h3⟩)
theorem TW.remove (h : TW w0 u m g k wb x t base n sz P Q N K) (key : ByteArray) : Calls Tryz.prog 8 #[ptr t, .string key] u fun r w' => r = .returned (.tuple #[.bool (getP P key).isSome, .int .i64 0]) ∧ TW w0 w' m g k wb x t base n sz (delP P key) Q N K := by
  obtain ⟨o, V, h1, h2, h3⟩ := h
  exact (h1.remove key).mono (fun r w' ⟨e, V', h'⟩ => ⟨e, o, V', h', h2.stay (h'.map.trans h1.map.symm), h3⟩)
theorem TW.list (h : TW w0 u m g k wb x t base n sz P Q N K) : Calls Tryz.prog 9 #[ptr t] u fun r w' => ∃ q, u.heap.size ≤ q ∧ r = .returned (.tuple #[.slice (some ⟨q, 0, none⟩) P.length n, .int .i64 0]) ∧ TW w0 w' m g k wb x t base n sz P Q N ((q, (flat eE (tbl n P)).toArray, 28) :: K) := by
  obtain ⟨o, V, h1, h2, h3⟩ := h
  exact h1.list.mono (fun r w' ⟨q, e1, e2, h'⟩ => ⟨q, e1, e2, o, V, h', h2.stay (h'.map.trans h1.map.symm), h3⟩)
end
end Go.Proofs.YtlbjalodjcajfaaGreat
