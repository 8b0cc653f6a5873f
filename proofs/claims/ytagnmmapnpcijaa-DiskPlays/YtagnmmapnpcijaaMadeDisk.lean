/-
  The walk of made: a disk behind some writes and flushes, and what every block was written since.
-/
import Derived.Test.YtagnmmapnpcijaaSince
namespace Go.Proofs.Ytagnmmapnpcijaa
open Go.RowKit

theorem last_lastOf (uf : List (Nat × List UInt8)) (d : List UInt8) (k : Nat) : ∀ n, n ≤ uf.length → (d :: ((uf.take n).filter (fun w => w.1 == k)).map (·.2)).getLast? = some ((lastOf uf k n).getD d)
  | 0, _ => rfl
  | n + 1, h => by
    have ih := last_lastOf uf d k n (by omega)
    have hg : uf[n]? = some uf[n] := List.getElem?_eq_getElem (by omega)
    have e1 : uf.take (n + 1) = uf.take n ++ [uf[n]] := by rw [List.take_add_one, hg]; rfl
    rw [lastOf, hg]
    show _ = some ((if uf[n].1 = k then some uf[n].2 else lastOf uf k n).getD d)
    generalize uf[n] = x at e1 hg ⊢
    obtain ⟨x1, x2⟩ := x
    by_cases e : x1 = k
    · have hb : (x1 == k) = true := by simpa using e
      have e2 : ((uf.take (n + 1)).filter (fun w => w.1 == k)).map (·.2) = ((uf.take n).filter (fun w => w.1 == k)).map (·.2) ++ [x2] := by
        rw [e1, List.filter_append, List.map_append, List.filter_cons_of_pos (p := fun w : Nat × List UInt8 => w.1 == k) (a := (x1, x2)) hb]
        rfl
      rw [if_pos e, e2, ← List.cons_append, List.getLast?_concat]
      rfl
    · have hb : ¬ (x1 == k) = true := by simpa using e
      have e2 : (uf.take (n + 1)).filter (fun w => w.1 == k) = (uf.take n).filter (fun w => w.1 == k) := by
        rw [e1, List.filter_append, List.filter_cons_of_neg (p := fun w : Nat × List UInt8 => w.1 == k) (a := (x1, x2)) hb]
        simp
      rw [if_neg e, e2, ih]
theorem sinceOf_last (D : DS) (k : Nat) (hk : k < D.nb) (ok : D.Ok) (h : (sinceOf D k).length - 1 < (sinceOf D k).length) : (sinceOf D k)[(sinceOf D k).length - 1] = blk D.image k := by
  have h1 := last_lastOf D.uf (blk D.dur k) k D.uf.length (Nat.le_refl _)
  rw [List.take_length] at h1
  have h2 := (blk_carryTo D.uf D.dur D.nb k hk ok.len ok.each D.uf.length (Nat.le_refl _)).2
  show _ = blk (carryTo D.uf D.dur D.uf.length) k
  rw [h2]
  have h3 : (sinceOf D k).getLast? = some ((lastOf D.uf k D.uf.length).getD (blk D.dur k)) := h1
  rw [List.getLast?_eq_getElem?, List.getElem?_eq_getElem h] at h3
  exact Option.some.inj h3
theorem sinceOf_flush (D : DS) (k : Nat) : sinceOf { D with dur := D.image, uf := [] } k = [blk D.image k] := rfl

/-- the disk and the piles, as made keeps them -/
def MRel (w0 w : World) (g gs : Nat) (i : Nat) : Prop := ∃ D F gf vf, IsDisk w g D F ∧ (∀ j, F j → w0.heap.size ≤ j) ∧ Below w0.heap.size w0 w ∧ Since w0 w F gs (sinceOf D) gf vf ∧ D.quiet ∧ D.nb = 4 ∧ D.uf.length ≤ i ∧ D.n ≤ i
end Go.Proofs.Ytagnmmapnpcijaa
