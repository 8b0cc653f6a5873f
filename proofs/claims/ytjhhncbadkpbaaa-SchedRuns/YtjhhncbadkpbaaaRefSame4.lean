/-
  The document's scheduler and the program's, plainly: Add.
-/
import Derived.Test.YtjhhncbadkpbaaaRefSame3
namespace Go.Proofs.Ytjhhncbadkpbaaa
theorem Alike.add {S : SS} {R : RS} (h : Alike S R) (hs : R.Sp = S.E.map (·.n)) (hG : S.E.length = S.G.length) (hnow : S.now = none) (g : Nat) (v : Value) {R' : RS} (h1 : R'.St = R.St ++ [1]) (h2 : R'.Sp = R.Sp ++ [0]) (h3 : R'.Ln = R.Ln ++ [R.St.length + 1]) (h4 : R'.wk = R.wk) (h5 : R'.now = R.now) :
    Alike (S.add g v) R' ∧ R'.Sp = (S.add g v).E.map (·.n) := by
  have hl : R.St.length = S.G.length := by rw [h.st, List.length_map, hG]
  refine ⟨⟨?_, ?_, ?_, ?_, fun _ _ hn => ?_⟩, ?_⟩
  · rw [h1, h.st]; simp [SS.add]
  · rw [h3, h.ln, hl]; simp [SS.add]
  · rw [h4, h.wk]; rfl
  · rw [h5, h.now]; rfl
  · change S.now = _ at hn
    rw [hnow] at hn
    cases hn
  · rw [h2, hs]; simp [SS.add]
end Go.Proofs.Ytjhhncbadkpbaaa
