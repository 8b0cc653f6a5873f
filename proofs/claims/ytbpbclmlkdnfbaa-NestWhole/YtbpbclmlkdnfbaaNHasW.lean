/-
  Writes of transactions whose blocks are told.
-/
import Derived.Test.YtbpbclmlkdnfbaaNHas
import Derived.Test.YtbpbclmlkdnfbaaTWr
namespace Go.Proofs.Ytbpbclmlkdnfbaa.T
open Go.RowKit Go.Proofs.Ytbpbclmlkdnfbaa.C
section
variable {w0 u : World} {m gm j g : Nat} {S : M} {l : List (Nat × TX)} {x : TX} {G : Nat → Prop}
theorem Hg.writes (h : Hg w0 u m gm S l G) (hj : l[j]? = some (g, x)) : Calls Try.prog 33 #[ptr g] u fun r u' => ∃ v, r = .returned v ∧ u'.ownsRow u.heap.size 3 1 v x.S.W.length (zcs (srt (kys x.S.W))) ∧ Below u.heap.size u u' := by
  obtain ⟨F, h⟩ := h
  exact writes_at (h.tx j g x hj).2.1
end
end Go.Proofs.Ytbpbclmlkdnfbaa.T
