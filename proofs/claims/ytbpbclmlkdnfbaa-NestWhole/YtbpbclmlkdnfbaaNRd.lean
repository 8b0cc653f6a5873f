/-
  Bools in a row.
-/
import Derived.Test.YtbpbclmlkdnfbaaNAwk
namespace Go.Proofs.Ytbpbclmlkdnfbaa.T
open Go.RowKit Go.Proofs.Ytbpbclmlkdnfbaa.C
def RdBl (w : World) (a : Option Addr) (ks : List Bool) : Prop :=
  0 < ks.length → ∃ b o, a = some ⟨b, o, none⟩ ∧ ∀ j (h : j < ks.length), w.cell? ⟨b, o + j, none⟩ = some (.bool ks[j])
end Go.Proofs.Ytbpbclmlkdnfbaa.T
