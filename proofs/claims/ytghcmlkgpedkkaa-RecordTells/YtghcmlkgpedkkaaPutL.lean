/-
  What Put leaves, as lists.
-/
import Derived.Test.YtghcmlkgpedkkaaCopyL
namespace Go.Proofs.Ytghcmlkgpedkkaa
open Go.RowKit

theorem cap_le {c : Nat} (h : c ≤ maxLen) : c ≤ 9223372036854775807 := by unfold maxLen at h; omega
theorem lst_row {w : World} {g o h c : Nat} {bl : List UInt8} (hc : w.cell? ⟨g, o, none⟩ = some (.slice (some ⟨h, 0, none⟩) 4096 c)) (hr : RowB w h c bl) (hl : bl.length = 4096) : LstAt w g o bl := by
  have q2 := hr
  obtain ⟨cur, hb, k1, k2, k3⟩ := q2
  exact ⟨some ⟨h, 0, none⟩, c, by rw [hl]; exact hc, k1, cap_le k2, fun h => (by cases h), hr.rd⟩
theorem rowC_at (ps : List PP) (i : Nat) (h : i < ps.length) : (rowC ps)[i]? = some (.slice (some ⟨(ps[i]).h, 0, none⟩) 4096 (ps[i]).c) := by simp [rowC, h]
theorem esOf_entL (M : List UInt8) (ps : List PP) : esOf M ps = entL M (ps.map fun p => (p.b, p.xs)) := by simp [esOf, entL]

theorem put_lsts {w' : World} {B gl cl h0 n e s : Nat} {ps : List PP} {is : List (Int × List UInt8)} (hn : is.length = n) (hok : okGroup e s is)
    (ho : w'.ownsRow B 31 1 (.slice (some ⟨gl, 0, none⟩) (n + 1) cl) (n + 1) (.slice (some ⟨h0, 0, none⟩) 4096 4096 :: rowC ps)) (hr : RowB w' h0 4096 (headB e s (esOf (mark e s) ps)))
    (hj : PutJ (mark e s) B w' ps) (hm : ps.map (fun p => (p.b, p.xs)) = is) : Lsts w' (some ⟨gl, 0, none⟩) (putL e s is) := fun _ => by
  have hlen : ps.length = n := by rw [← hn, ← hm]; simp
  rw [esOf_entL, hm] at hr
  refine ⟨gl, 0, rfl, fun j hjl => ?_⟩
  have hjn : j < n + 1 := by simpa [putL, hn] using hjl
  have cell : w'.cell? ⟨gl, 0 + j, none⟩ = (.slice (some ⟨h0, 0, none⟩) 4096 4096 :: rowC ps)[j]? := by
    rcases ho.2 with ⟨h1, _⟩ | ⟨g, cap, cur, h1, _, hg2, hnc, hcm, hcs, ht⟩
    · cases h1
    · injection h1 with h1
      injection h1 with h1
      injection h1 with h1
      subst h1
      have hB : Box w' gl cur 31 := hg2
      rw [Nat.zero_add, hB.cell j, ← ht, List.getElem?_take, if_pos (by omega)]
      simp
  cases j with
  | zero =>
    have e0 : (putL e s is)[0] = headB e s (entL (mark e s) is) := rfl
    have hl : (headB e s (entL (mark e s) is)).length = 4096 := headB_length (bodyB_length _ (entL_len hok) (by rw [entL_length]; exact (is_length hok).2))
    rw [e0]
    refine ⟨some ⟨h0, 0, none⟩, 4096, ?_, Nat.le_of_eq hl, by decide, fun h => (by cases h), hr.rd⟩
    rw [hl, cell]
    rfl
  | succ i =>
    have hi : i < ps.length := by omega
    have hii : i < is.length := by omega
    have e1 : (putL e s is)[i + 1] = stB (mark e s) (is[i]).2 := by simp [putL]
    have e2 : (is[i]).2 = (ps[i]).xs := by subst hm; simp
    obtain ⟨q1, _⟩ := hj.rows ps[i] (List.getElem_mem hi)
    have hd4 : (is[i]).2.length = 4096 := hok.2 (is[i]) (List.getElem_mem hii)
    have hl := stB_length (mark e s) (is[i]).2 hd4 (mark_length e s)
    rw [← e2] at q1
    have c2 : w'.cell? ⟨gl, 0 + (i + 1), none⟩ = some (.slice (some ⟨(ps[i]).h, 0, none⟩) 4096 (ps[i]).c) := by
      rw [cell, List.getElem?_cons_succ]
      exact rowC_at ps i hi
    have fin := lst_row c2 q1 hl
    rw [← e1] at fin
    exact fin
theorem putL_len {e s : Nat} {is : List (Int × List UInt8)} (hok : okGroup e s is) (x : List UInt8) (hx : x ∈ putL e s is) : x.length = 4096 := by
  have h1 := headB_length (e := e) (s := s) (bodyB_length (entL (mark e s) is) (entL_len hok) (by rw [entL_length]; exact (is_length hok).2))
  unfold putL at hx
  generalize headB e s (entL (mark e s) is) = hd at h1 hx
  rcases List.mem_cons.1 hx with q | q
  · rw [q]
    exact h1
  · obtain ⟨i, hi, q2⟩ := List.mem_map.1 q
    have h2 := stB_length (mark e s) i.2 (hok.2 i hi) (mark_length e s)
    rw [q2] at h2
    exact h2
end Go.Proofs.Ytghcmlkgpedkkaa
