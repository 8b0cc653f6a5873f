/-
  Merging in place.
-/
import Derived.Test.YtlbnilendcelkaaSy3
namespace Go.Proofs.Ytlbnilendcelkaa
open Go.RowKit
namespace I
theorem symMerge_at {w0 : World} {g cap N c : Nat} (hn : N ≤ 2000) : ∀ (d : Nat) (P U V S : List (En Int)) (a m b : Nat) (w : World), b - a ≤ d → Srt eI 33 w0 w g cap (P ++ U ++ V ++ S) → N = (P ++ U ++ V ++ S).length → Two En.ver P U V S a m b →
    Calls Try.prog 47 #[.slice (some ⟨g, 0, none⟩) N c, .int .i64 (a : Int), .int .i64 (m : Int), .int .i64 (b : Int), .func (.func 28) #[] #[]] w fun r w' => r = .returned (.tuple #[]) ∧ Srt eI 33 w0 w' g cap (P ++ mrg En.ver U V ++ S)
  | 0, P, U, V, S, a, m, b, w, hd, h, hN, hT => by have := hT.up; omega
  | d + 1, P, U, V, S, a, m, b, w, hd, h, hN, hT => by
    have hup := hT.up
    by_cases h1 : m = a + 1
    · have : U.length = 1 := by have := hT.hm; omega
      match U, this with
      | [x], _ => exact symOne_at P V S x h hN hn a m b hT
    · by_cases h2 : b = m + 1
      · have : V.length = 1 := by have := hT.hb; omega
        match V, this with
        | [y], _ => exact symLast_at P U S y h hN hn a m b hT h1
      · exact symGen_at P U V S h hN hn a m b hT h1 h2 (fun P' U' V' S' a' m' b' u hlt hs hN' hT' => symMerge_at hn d P' U' V' S' a' m' b' u (by omega) hs hN' hT')
end I
end Go.Proofs.Ytlbnilendcelkaa
