/-
  SchedSteps: the plain side: steps add up; nobody stands in the line and is blocked.
-/
import Derived.Test.YtjhhncbadkpbaaaSit
namespace Go.Proofs.Ytjhhncbadkpbaaa
open Go.RowKit

def SS.sum (S : SS) : Nat := (S.E.map (·.n)).sum
theorem sum_set : ∀ (l : List Nat) (i x : Nat), l[i]? = some x → (l.set i (x + 1)).sum = l.sum + 1
  | [], _, _, h => by simp at h
  | a :: l, 0, x, h => by
    simp at h
    subst h
    simp
    omega
  | a :: l, i + 1, x, h => by
    have := sum_set l i x (by simpa using h)
    simp [this]
    omega
theorem le_sum : ∀ (l : List Nat) (i x : Nat), l[i]? = some x → x ≤ l.sum
  | [], _, _, h => by simp at h
  | a :: l, 0, x, h => by
    simp at h
    subst h
    simp
  | a :: l, i + 1, x, h => by
    have := le_sum l i x (by simpa using h)
    simp
    omega
theorem le_sumS {S : SS} {i : Nat} {e : En} (h : S.E[i]? = some e) : e.n ≤ S.sum := le_sum _ i _ (by simp [h])
theorem pick_sum {S : SS} {p i : Nat} {e : En} (d : Do3) (he : S.E[i]? = some e) (h1 : e.st = 1) : (S.pickTo p i e d).sum = S.sum + 1 := by
  have heB : (S.beg p i).E[i]? = some e := he
  obtain ⟨_, _, f3, _, f5⟩ := did_facts d heB h1
  have hlen : (S.pickTo p i e d).E.length = S.E.length := by
    have : ∀ st, (((S.beg p i).did d).fin i e st).E.length = ((S.beg p i).did d).E.length := fun st => by
      unfold SS.fin
      split
      · simp
      · split <;> simp
    exact (this _).trans f5
  unfold SS.sum
  rw [← sum_set (S.E.map (·.n)) i e.n (by simp [he])]
  congr 1
  apply List.ext_getElem?
  intro j
  by_cases hj : j < S.E.length
  · have hej : S.E[j]? = some S.E[j] := List.getElem?_eq_getElem hj
    obtain ⟨e1, q1, _, q3, _⟩ := did_ent (S := S.beg p i) d hej
    obtain ⟨e2, r1, r2, _, _⟩ := fin_ent (d.tell % 7).toNat f3 q1
    rw [List.getElem?_map, show (S.pickTo p i e d).E[j]? = some e2 from r1]
    by_cases hji : j = i
    · subst hji
      rw [List.getElem?_set_self (by simpa using hj)]
      rw [he] at hej
      injection hej with hej
      simp [r2, q3, hej]
    · rw [List.getElem?_set_ne (Ne.symm hji)]
      simp [r2, hji, q3, hj]
  · rw [List.getElem?_eq_none (by simp; omega), List.getElem?_eq_none (by simp; omega)]
theorem pick_stat {S : SS} {p i : Nat} {e : En} (d : Do3) (he : S.E[i]? = some e) (h1 : e.st = 1) : ∃ e', (S.pickTo p i e d).E[i]? = some e' ∧ e'.st = S.pickSt p i d := by
  have heB : (S.beg p i).E[i]? = some e := he
  obtain ⟨_, _, f3, _, _⟩ := did_facts d heB h1
  obtain ⟨v, g1, _⟩ := fin_at (d.tell % 7).toNat f3
  exact ⟨_, g1, rfl⟩
theorem pick_G {S : SS} {p i : Nat} {e : En} (d : Do3) (he : S.E[i]? = some e) (h1 : e.st = 1) : (S.pickTo p i e d).G = S.G := by
  have heB : (S.beg p i).E[i]? = some e := he
  obtain ⟨f1, _, f3, _, _⟩ := did_facts d heB h1
  obtain ⟨v, _, g2, _⟩ := fin_at (d.tell % 7).toNat f3
  exact g2.trans f1
theorem toldBy_len (S : SS) (told : List Bool) (d : Do3) : (toldBy S told d).length ≤ told.length + 1 := by
  unfold toldBy
  split
  · omega
  · simp
theorem alX_pair : ∀ (E : List En) (G : List Nat) (k : Nat), (alX E G k).Pairwise (fun x y => x.i < y.i) ∧ ∀ x ∈ alX E G k, k ≤ x.i
  | [], _, _ => by simp [alX]
  | _ :: _, [], _ => by simp [alX]
  | e :: E, g :: G, k => by
    obtain ⟨h1, h2⟩ := alX_pair E G (k + 1)
    rw [alX]
    split
    · exact ⟨h1, fun x hx => by have := h2 x hx; omega⟩
    · refine ⟨List.pairwise_cons.2 ⟨fun x hx => by have := h2 x hx; show k < x.i; omega, h1⟩, fun x hx => ?_⟩
      rcases List.mem_cons.1 hx with rfl | hx
      · exact Nat.le_refl _
      · have := h2 x hx; omega
theorem room {S : SS} (h : Good S) (hlen : S.E.length = S.G.length) (hll : ∀ i ∈ S.L, i < S.G.length) : S.L.length + S.blk.length ≤ S.G.length := by
  obtain ⟨P, hP⟩ : ∃ P, P = ((alX S.E S.G 0).filter fun x => x.e.st == 2).map (·.i) := ⟨_, rfl⟩
  have hPl : S.blk.length = P.length := by rw [hP]; unfold SS.blk gat; simp
  have hPm : ∀ j ∈ P, ∃ e, S.E[j]? = some e ∧ e.st = 2 := fun j hj => by
    rw [hP] at hj
    obtain ⟨x, hx, rfl⟩ := List.mem_map.1 hj
    obtain ⟨h1, h2⟩ := List.mem_filter.1 hx
    obtain ⟨q, h3, h4, _⟩ := alX_mem _ _ _ _ h1
    have e1 : x.i = q := by omega
    rw [e1]
    exact ⟨x.e, h4, by simpa using h2⟩
  have hPn : P.Nodup := by
    rw [hP]
    exact List.pairwise_map.2 (((alX_pair S.E S.G 0).1.filter _).imp (fun hab => Nat.ne_of_lt hab))
  have key := nodup_le S.G.length (S.L ++ P) (by
    rw [List.nodup_append]
    refine ⟨h.nd, hPn, ?_⟩
    intro a ha b hb e1
    subst e1
    obtain ⟨e, h1, h2⟩ := h.ln a ha
    obtain ⟨e', h3, h4⟩ := hPm a hb
    rw [h1] at h3
    cases h3
    omega) (fun x hx => by
      rcases List.mem_append.1 hx with h1 | h1
      · exact hll x h1
      · obtain ⟨e, h2, _⟩ := hPm x h1
        have := (List.getElem?_eq_some_iff.1 h2).1
        omega)
  rw [List.length_append] at key
  omega
end Go.Proofs.Ytjhhncbadkpbaaa
