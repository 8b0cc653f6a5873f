/-
  The document's scheduler and the program's, plainly: a whole pick.
-/
import Derived.Test.YtjhhncbadkpbaaaRefSame2
import Derived.Test.YtjhhncbadkpbaaaStepsP
namespace Go.Proofs.Ytjhhncbadkpbaaa
theorem map_erase {α β : Type} (f : α → β) : ∀ (l : List α) (k : Nat), (l.map f).eraseIdx k = (l.eraseIdx k).map f
  | [], _ => rfl
  | _ :: _, 0 => rfl
  | a :: l, k + 1 => by
    show f a :: (l.map f).eraseIdx k = f a :: (l.eraseIdx k).map f
    rw [map_erase f l k]
def RS.begun (R : RS) (p i n : Nat) : RS := { R with Ln := R.Ln.eraseIdx (p % R.Ln.length), wk := false, now := i + 1, Sp := R.Sp.set i (n + 1) }
theorem Alike.pick {S : SS} {R : RS} (h : Alike S R) {told : List Bool} (ht : R.Td = told) (hs : R.Sp = S.E.map (·.n)) (p i : Nat) (e : En) (he : S.E[i]? = some e) (h1 : e.st = 1) (d : Do3) (hd0 : 0 ≤ d.tell) (hd7 : d.tell < 7) :
    Alike (S.pickTo p i e d) (((R.begun p i e.n).did d).fin i d.tell) ∧ (((R.begun p i e.n).did d).fin i d.tell).Sp = (S.pickTo p i e d).E.map (·.n) ∧ ((R.begun p i e.n).did d).finSt d.tell = S.pickSt p i d ∧ (((R.begun p i e.n).did d).fin i d.tell).Td = toldBy (S.beg p i) told d := by
  have hl : R.Ln.length = S.L.length := by rw [h.ln, List.length_map]
  have A0 : Alike (S.beg p i) (R.begun p i e.n) := by
    refine ⟨h.st, ?_, rfl, rfl, fun i' e' hi he' => ?_⟩
    · show R.Ln.eraseIdx (p % R.Ln.length) = (S.L.eraseIdx (p % S.L.length)).map (· + 1)
      rw [hl, h.ln, map_erase]
    · injection hi with hi
      subst hi
      have e2 : some e' = some e := he'.symm.trans he
      injection e2 with e2
      rw [e2, h1]
      decide
  obtain ⟨A1, s1, s2, t1⟩ := A0.did d (told := told) ht
  have e7 : (((d.tell % 7).toNat : Nat) : Int) = d.tell := by omega
  have A2 := A1.fin i e (by rw [s1, s2]; show R.Sp.set i (e.n + 1) = _; rw [hs]; rfl) (d.tell % 7).toNat
  rw [e7] at A2
  exact ⟨A2.1, A2.2.1, A2.2.2.1, A2.2.2.2.trans t1⟩
end Go.Proofs.Ytjhhncbadkpbaaa
