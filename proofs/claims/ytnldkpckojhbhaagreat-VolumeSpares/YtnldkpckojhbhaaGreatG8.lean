/-
  SPlain, SCrash, HIter, HMap, HMade, HHome, HSort, HRising, HHomeAt, HChoose, HSup, VPlain, VSupers, VFind, VMap, VMount, VCommitA, VCommitB, HRisAny, HHomeNo, HHomeAny: put together.
-/
import Derived.Test.YtnldkpckojhbhaaGreatG7
import Derived.Shelf.SlIterI.Nil
import Derived.Shelf.SortM.Plain
import Derived.Shelf.SortM.SortNone
import Derived.Test.YtnldkpckojhbhaaGreatRows
import Derived.Maps.OwnSet
import Derived.Maps.Range
import Derived.Lib.SlKeysI
import Derived.Deep.AppendLies
import Derived.Carry
import Derived.Deep.RegionHeld3
/-
  Groups behind one another in a ring, of which a crash may have left anything: what is told is a beginning of them. No walk here.
-/
namespace Go.Proofs.YtnldkpckojhbhaaGreat.S
open Go.RowKit

/-- groups, one behind the other, as blocks -/
def blks (E : Nat) : Nat → List (List (Int × List UInt8)) → List (List UInt8)
  | _, [] => []
  | s, is :: r => Rc.putL E s is ++ blks E (s + 1) r
/-- all of them are right -/
def okAll (E : Nat) : Nat → List (List (Int × List UInt8)) → Prop
  | _, [] => True
  | s, is :: r => Rc.okGroup E s is ∧ okAll E (s + 1) r
/-- the block at so many places behind the tail -/
def rg (D : Dk.DS) (t i : Nat) : List UInt8 := D.stand (2 + (t + i) % 16)
/-- a stamp of this epoch is not borne -/
def noMark (E : Nat) (xs : List UInt8) : Prop := ∀ s, s ≤ 549755813888 → xs.take 8 ≠ Rc.mark E s
/-- from b on each sector is that of the blocks L, or bears no stamp of the epoch -/
def Mixd (D : Dk.DS) (t E b : Nat) (L : List (List UInt8)) : Prop :=
  ∀ i, b ≤ i → i < 16 → ∀ x : Fin 8, (∃ h : i - b < L.length, Rc.sec (rg D t i) x.val = Rc.sec L[i - b] x.val) ∨ noMark E (Rc.sec (rg D t i) x.val)

theorem ringB_get (D : Dk.DS) (t b k i : Nat) (h : i < (ringB D t b k).length) : (ringB D t b k)[i] = rg D t (b + i) := by simp [ringB, rg]
theorem ring0 (D : Dk.DS) (t b k : Nat) : (ringB D t b (k + 1))[0]?.getD [] = rg D t b := ringB_head D t b k

section
variable {D : Dk.DS} {t E b s : Nat}
/-- all sectors of a group's blocks bear its stamp -/
theorem gok_marks (h : GOk D t E b s) (i : Nat) (hi : i < cntAt D t b + 1) (x : Fin 8) : (Rc.sec (rg D t (b + i)) x.val).take 8 = Rc.mark E s := by
  obtain ⟨⟨h1, h2, h3⟩, _, hg⟩ := h
  have h4 := Rc.grp_marks hg i (by rw [ringB_length]; exact hi) x
  rw [ringB_get, ring0] at h4
  unfold rg at h4 ⊢
  rw [h2, h3] at h4
  exact h4
theorem gok_len (h : GOk D t E b s) (i : Nat) (hi : i < cntAt D t b + 1) : (rg D t (b + i)).length = 4096 := by
  have h4 := Rc.grp_len h.2.2 i (by rw [ringB_length]; exact hi)
  rw [ringB_get] at h4
  exact h4
theorem gok_s (h : GOk D t E b s) : s ≤ 549755813888 ∧ E ≤ 8388608 ∧ 1 ≤ s ∧ 1 ≤ E := by
  have h1 := (Rc.okStamp_iff _ _).1 (Rc.grp_ok h.2.2)
  rw [ring0] at h1
  obtain ⟨⟨_, h2, h3⟩, _⟩ := h
  unfold rg at h1
  rw [h2, h3] at h1
  omega
/-- a whole group that lies there is one -/
theorem gok_of (is : List (Int × List UInt8)) (hok : Rc.okGroup E s is) (hb : b + (is.length + 1) ≤ 16) (hr : ∀ i (h : i < (Rc.putL E s is).length), rg D t (b + i) = (Rc.putL E s is)[i]) :
    GOk D t E b s ∧ cntAt D t b = is.length ∧ ringB D t b (is.length + 1) = Rc.putL E s is := by
  have h0 : rg D t b = Rc.headB E s (Rc.entL (Rc.mark E s) is) := hr 0 (by simp [Rc.putL])
  obtain ⟨q1, q2, q3⟩ := Rc.put_said hok
  have hc : cntAt D t b = is.length := by
    unfold cntAt
    show (Rc.saidEs (rg D t b)).length = _
    rw [h0, q3, Rc.entL_length]
  have hl : (Rc.putL E s is).length = is.length + 1 := by simp [Rc.putL]
  have hR : ringB D t b (is.length + 1) = Rc.putL E s is := by
    refine List.ext_getElem (by rw [ringB_length, hl]) (fun i h1 h2 => ?_)
    rw [ringB_get, hr i h2]
  refine ⟨⟨⟨?_, ?_, ?_⟩, by rw [hc]; exact hb, by rw [hc, hR]; exact Rc.put_grp hok⟩, hc, hR⟩
  · show Rc.isHead (rg D t b); rw [h0]; exact Rc.put_head hok
  · show Rc.saidE (rg D t b) = _; rw [h0]; exact q1
  · show Rc.saidS (rg D t b) = _; rw [h0]; exact q2
theorem gimgs_of (is : List (Int × List UInt8)) (hok : Rc.okGroup E s is) (hc : cntAt D t b = is.length) (hR : ringB D t b (is.length + 1) = Rc.putL E s is) : gimgs D t b = is := by
  have h0 : rg D t b = Rc.headB E s (Rc.entL (Rc.mark E s) is) := by
    have := ring0 D t b is.length
    rw [hR] at this
    exact this.symm
  unfold gimgs
  show Rc.imgsTo _ (Rc.saidEs (rg D t b)) _ = _
  rw [hc, hR, h0, (Rc.put_said hok).2.2]
  exact Rc.put_imgs hok
end

theorem blks_cons (E s : Nat) (is : List (Int × List UInt8)) (r : List (List (Int × List UInt8))) : blks E s (is :: r) = Rc.putL E s is ++ blks E (s + 1) r := rfl
theorem putL_length' (E s : Nat) (is : List (Int × List UInt8)) : (Rc.putL E s is).length = is.length + 1 := by simp [Rc.putL]

/-- the next group: if one is told, it is the next of those that were written -/
theorem next_of {D : Dk.DS} {t E b s : Nat} {iss : List (List (Int × List UInt8))} (hok : okAll E s iss) (hm : Mixd D t E b (blks E s iss)) (h : GOk D t E b s) :
    ∃ is r, iss = is :: r ∧ cntAt D t b = is.length ∧ gimgs D t b = is := by
  have hs := gok_s h
  have hfit := h.2.1
  have all : ∀ i, i < cntAt D t b + 1 → ∀ x : Fin 8, ∃ h : i < (blks E s iss).length, Rc.sec (rg D t (b + i)) x.val = Rc.sec (blks E s iss)[i] x.val := fun i hi x => by
    rcases hm (b + i) (by omega) (by omega) x with ⟨h1, h2⟩ | h1
    · have e : b + i - b = i := by omega
      refine ⟨by omega, ?_⟩
      simpa only [e] using h2
    · exact absurd (gok_marks h i hi x) (h1 s hs.1)
  cases iss with
  | nil =>
    obtain ⟨h1, _⟩ := all 0 (by omega) 0
    exact absurd h1 (by simp [blks])
  | cons is r =>
    obtain ⟨ok1, ok2⟩ := hok
    have hl := putL_length' E s is
    have blk : ∀ i, i < cntAt D t b + 1 → ∀ h' : i < (Rc.putL E s is).length, rg D t (b + i) = (Rc.putL E s is)[i] := fun i hi h' => by
      rw [← Rc.cat_sec _ (gok_len h i hi), ← Rc.cat_sec _ (Rc.grp_len (Rc.put_grp ok1) i h')]
      congr 1
      funext x
      obtain ⟨_, h2⟩ := all i hi x
      rw [h2]
      simp only [blks_cons]
      rw [List.getElem_append_left h']
    have h0 : rg D t b = Rc.headB E s (Rc.entL (Rc.mark E s) is) := blk 0 (by omega) (by omega)
    have hc : cntAt D t b = is.length := by
      unfold cntAt
      show (Rc.saidEs (rg D t b)).length = _
      rw [h0, (Rc.put_said ok1).2.2, Rc.entL_length]
    have hR : ringB D t b (is.length + 1) = Rc.putL E s is := by
      refine List.ext_getElem (by rw [ringB_length, hl]) (fun i h1 h2 => ?_)
      rw [ringB_get, blk i (by omega) h2]
    exact ⟨is, r, rfl, hc, gimgs_of is ok1 hc hR⟩

theorem Mixd.tail {D : Dk.DS} {t E b s : Nat} {is : List (Int × List UInt8)} {r : List (List (Int × List UInt8))} (hm : Mixd D t E b (blks E s (is :: r))) : Mixd D t E (b + (is.length + 1)) (blks E (s + 1) r) := fun i hi h16 x => by
  have hl := putL_length' E s is
  rcases hm i (by omega) h16 x with ⟨h1, h2⟩ | h1
  · left
    have e : i - b - (is.length + 1) = i - (b + (is.length + 1)) := by omega
    have hlen : (blks E s (is :: r)).length = is.length + 1 + (blks E (s + 1) r).length := by rw [blks_cons, List.length_append, hl]
    refine ⟨by omega, ?_⟩
    rw [h2]
    simp only [blks_cons]
    rw [List.getElem_append_right (by omega)]
    simp only [hl, e]
  · exact .inr h1

/-- what is told is a beginning of what was written -/
theorem run_mixd {D : Dk.DS} {t E : Nat} : ∀ {xs : List Gx} {iss : List (List (Int × List UInt8))} {b s : Nat}, okAll E s iss → Mixd D t E b (blks E s iss) → Run D t E b s xs → xs.length ≤ iss.length ∧ xs.map (fun x => gimgs D t x.b) = iss.take xs.length
  | [], iss, b, s, _, _, _ => ⟨Nat.zero_le _, rfl⟩
  | x :: r, iss, b, s, hok, hm, hr => by
    obtain ⟨⟨hb, hs, hg, hx⟩, hr'⟩ := hr
    obtain ⟨is, r', rfl, hc, hi⟩ := next_of hok hm hg
    rw [hc] at hr'
    obtain ⟨q1, q2⟩ := run_mixd hok.2 hm.tail hr'
    refine ⟨by simp; omega, ?_⟩
    simp only [List.map_cons, List.length_cons, List.take_succ_cons, q2, hb, hi]
/-- of a whole ring all is told -/
theorem run_whole {D : Dk.DS} {t E : Nat} : ∀ {xs : List Gx} {iss : List (List (Int × List UInt8))} {b s : Nat}, okAll E s iss → (∀ i (h : i < (blks E s iss).length), rg D t (b + i) = (blks E s iss)[i]) → b + (blks E s iss).length ≤ 16 → Run D t E b s xs → iss.length ≤ xs.length
  | xs, [], b, s, _, _, _, _ => Nat.zero_le _
  | xs, is :: r, b, s, hok, hw, hf, hr => by
    have hl := putL_length' E s is
    have hlen : (blks E s (is :: r)).length = is.length + 1 + (blks E (s + 1) r).length := by rw [blks_cons, List.length_append, hl]
    obtain ⟨g1, g2, g3⟩ := gok_of (D := D) (t := t) (b := b) is hok.1 (by omega) (fun i h => by
      rw [hw i (by omega)]
      simp only [blks_cons]
      rw [List.getElem_append_left h])
    cases xs with
    | nil => exact absurd g1 hr
    | cons x xs =>
      obtain ⟨_, hr'⟩ := hr
      rw [g2] at hr'
      have := run_whole hok.2 (b := b + (is.length + 1)) (fun i h => by
        rw [show b + (is.length + 1) + i = b + (is.length + 1 + i) by omega, hw (is.length + 1 + i) (by omega)]
        simp only [blks_cons]
        rw [List.getElem_append_right (by omega)]
        simp only [hl, Nat.add_sub_cancel_left]) (by omega) hr'
      simp
      exact this
theorem Run.seq {D : Dk.DS} {t E : Nat} : ∀ {xs : List Gx} {b s : Nat}, Run D t E b s xs → ∀ j (h : j < xs.length), xs[j].s = s + j
  | x :: r, b, s, ⟨⟨_, hs, _⟩, hr⟩, j, h => by
    cases j with
    | zero => simpa using hs
    | succ j =>
      have := hr.seq j (by simpa using h)
      simp only [List.getElem_cons_succ, this]
      omega
theorem Run.cnt {D : Dk.DS} {t E : Nat} : ∀ {xs : List Gx} {b s : Nat}, Run D t E b s xs → ∀ x ∈ xs, x.m = (gimgs D t x.b).length ∧ 1 ≤ x.m ∧ x.m ≤ 32
  | x :: r, b, s, ⟨⟨hb, hs, hg, hx⟩, hr⟩, y, hy => by
    rcases List.mem_cons.1 hy with rfl | hy
    · have hm : 1 ≤ cntAt D t b ∧ cntAt D t b ≤ 32 := by
        have h := hg.1.1.2.1.2.1
        simpa [cntAt] using h
      rw [hb, hx]
      exact ⟨by simp [gimgs, Rc.imgsTo], hm⟩
    · exact hr.cnt y hy

/-- how long they are -/
theorem blks_length (E : Nat) : ∀ (iss : List (List (Int × List UInt8))) (s : Nat), (blks E s iss).length = (iss.map fun is => is.length + 1).sum
  | [], _ => rfl
  | is :: r, s => by rw [blks_cons, List.length_append, blks_length E r, putL_length']; simp
theorem blks_snoc (E : Nat) : ∀ (iss : List (List (Int × List UInt8))) (s : Nat) (is : List (Int × List UInt8)), blks E s (iss ++ [is]) = blks E s iss ++ Rc.putL E (s + iss.length) is
  | [], s, is => by simp [blks]
  | i :: r, s, is => by
    rw [List.cons_append, blks_cons, blks_cons, blks_snoc E r (s + 1) is, List.append_assoc, List.length_cons]
    congr 3
    omega
theorem okAll_snoc {E : Nat} : ∀ {iss : List (List (Int × List UInt8))} {s : Nat} {is : List (Int × List UInt8)}, okAll E s iss → Rc.okGroup E (s + iss.length : Nat) is → okAll E s (iss ++ [is])
  | [], s, is, _, h => ⟨by simpa using h, trivial⟩
  | i :: r, s, is, ⟨h1, h2⟩, h => ⟨h1, okAll_snoc h2 (by rw [show s + 1 + r.length = s + (i :: r).length by simp; omega]; exact h)⟩
theorem okAll_marks {E : Nat} : ∀ {iss : List (List (Int × List UInt8))} {s : Nat}, okAll E s iss → ∀ i (h : i < (blks E s iss).length), (blks E s iss)[i].length = 4096 ∧ ∃ k, k < iss.length ∧ ∀ x : Fin 8, (Rc.sec (blks E s iss)[i] x.val).take 8 = Rc.mark E (s + k)
  | [], s, _, i, h => absurd h (by simp [blks])
  | is :: r, s, ⟨h1, h2⟩, i, h => by
    have hl := putL_length' E s is
    by_cases hi : i < (Rc.putL E s is).length
    · have e : (blks E s (is :: r))[i] = (Rc.putL E s is)[i] := by simp only [blks_cons]; rw [List.getElem_append_left hi]
      rw [e]
      exact ⟨Rc.grp_len (Rc.put_grp h1) i hi, 0, by simp, fun x => by rw [Nat.add_zero]; exact Rc.put_marks h1 i hi x⟩
    · have hlen : (blks E s (is :: r)).length = is.length + 1 + (blks E (s + 1) r).length := by rw [blks_cons, List.length_append, hl]
      have hi2 : i - (Rc.putL E s is).length < (blks E (s + 1) r).length := by omega
      have e : (blks E s (is :: r))[i] = (blks E (s + 1) r)[i - (Rc.putL E s is).length] := by simp only [blks_cons]; rw [List.getElem_append_right (by omega)]
      rw [e]
      obtain ⟨q1, k, q2, q3⟩ := okAll_marks h2 (i - (Rc.putL E s is).length) hi2
      exact ⟨q1, k + 1, by simp; omega, fun x => by rw [q3 x, show s + 1 + k = s + (k + 1) by omega]⟩

/-- the law's groups -/
def iss9 (gs : List (Nat × Int)) : List (List (Int × List UInt8)) := gs.map fun q => im9 q.2 q.1
/-- the law's disk: all that was written, in order -/
theorem st9_uf (e t : Nat) (ht : t < 16) (zs : List Int) : ∀ k, k ≤ zs.length → (st9 e t zs k).D.dur = Dk.nought (64 * 4096) ∧ (st9 e t zs k).U = (blks e 1 (iss9 (st9 e t zs k).gs)).length ∧ (st9 e t zs k).D.uf = J.wrs 16 t (blks e 1 (iss9 (st9 e t zs k).gs)) (st9 e t zs k).U
  | 0, _ => ⟨rfl, rfl, rfl⟩
  | k + 1, h => by
    obtain ⟨h1, h2, h3⟩ := st9_uf e t ht zs k (by omega)
    rw [st9_succ e t zs k (by omega)]
    generalize (zs[k]'(by omega)) = z
    generalize st9 e t zs k = s at h1 h2 h3 ⊢
    unfold step9
    split
    · rename_i hr
      have ei : iss9 (s.gs ++ [(n9 z, z)]) = iss9 s.gs ++ [im9 z (n9 z)] := by simp [iss9]
      have el : (iss9 s.gs).length = s.gs.length := by simp [iss9]
      have eb : blks e 1 (iss9 (s.gs ++ [(n9 z, z)])) = blks e 1 (iss9 s.gs) ++ Rc.putL e (s.gs.length + 1) (im9 z (n9 z)) := by rw [ei, blks_snoc, el, Nat.add_comm 1]
      have hp : (Rc.putL e (s.gs.length + 1) (im9 z (n9 z))).length = n9 z + 1 := by rw [putL_length', im9_length]
      refine ⟨h1, ?_, ?_⟩
      · show s.U + (n9 z + 1) = _
        rw [eb, List.length_append, hp, h2]
      · show s.D.uf ++ J.wrs 16 ((t + s.U) % 16) _ (n9 z + 1) = J.wrs 16 t _ (s.U + (n9 z + 1))
        rw [h3, eb]
        unfold J.wrs
        have hrr : List.range (s.U + (n9 z + 1)) = List.range s.U ++ (List.range (n9 z + 1)).map (s.U + ·) := List.range_add
        rw [hrr, List.map_append, List.map_map]
        congr 1
        · refine List.map_congr_left fun i hi => ?_
          have hi' : i < s.U := by simpa using hi
          rw [List.getD_eq_getElem?_getD, List.getD_eq_getElem?_getD, List.getElem?_append_left (by omega)]
        · refine List.map_congr_left fun i hi => ?_
          show _ = (2 + (t + (s.U + i)) % 16, (blks e 1 (iss9 s.gs) ++ Rc.putL e (s.gs.length + 1) (im9 z (n9 z))).getD (s.U + i) [])
          rw [List.getD_eq_getElem?_getD, List.getD_eq_getElem?_getD, List.getElem?_append_right (by omega), h2, Nat.add_sub_cancel_left]
          congr 2
          omega
    · exact ⟨h1, h2, h3⟩
theorem st9_ok (e t : Nat) (he : 1 ≤ e ∧ e ≤ 9) (zs : List Int) : ∀ k, k ≤ zs.length → k ≤ 12 → okAll e 1 (iss9 (st9 e t zs k).gs)
  | 0, _, _ => trivial
  | k + 1, h, h12 => by
    have ih := st9_ok e t he zs k (by omega) (by omega)
    have hk := ok9 e t zs k (by omega)
    rw [st9_succ e t zs k (by omega)]
    generalize (zs[k]'(by omega)) = z
    generalize st9 e t zs k = s at ih hk ⊢
    unfold step9
    split
    · have ei : iss9 (s.gs ++ [(n9 z, z)]) = iss9 s.gs ++ [im9 z (n9 z)] := by simp [iss9]
      have el : (iss9 s.gs).length = s.gs.length := by simp [iss9]
      have hn := n9_in z
      have hg := hk.2.2.2.2.2.1
      show okAll e 1 (iss9 (s.gs ++ [(n9 z, z)]))
      rw [ei]
      refine okAll_snoc ih (im9_ok _ _ z (n9 z) (by omega) (by omega) ((Rc.okStamp_iff _ _).2 (by omega)))
    · exact ih
end Go.Proofs.YtnldkpckojhbhaaGreat.S

/-
  What the blocks of the law's ring are, behind writes, a flush, a crash. No walk here.
-/
namespace Go.Proofs.YtnldkpckojhbhaaGreat.S
open Go.RowKit

theorem sec_eq (xs : List UInt8) (k : Nat) : Dk.sec xs k = Rc.sec xs k := rfl
/-- what stands in the ring behind such writes -/
theorem rg_in {D : Dk.DS} {t : Nat} {L : List (List UInt8)} (hu : D.uf = J.wrs 16 t L L.length) (hL : L.length ≤ 16) (i : Nat) (h : i < L.length) : rg D t i = L[i] := by
  have h1 := J.grow_in (Dk.DS.new D.nb D.dur) t L i L.length h hL
  have h2 : (J.grow (Dk.DS.new D.nb D.dur) 16 t L L.length).stand (2 + (t + i) % 16) = D.stand (2 + (t + i) % 16) := by
    unfold Dk.DS.stand
    rw [hu]
    rfl
  unfold rg
  rw [← h2, h1]
  simp [h]
theorem rg_out {D : Dk.DS} {t : Nat} {L : List (List UInt8)} (hu : D.uf = J.wrs 16 t L L.length) (i : Nat) (h : L.length ≤ i) (h16 : i < 16) : rg D t i = Dk.blk D.dur (2 + (t + i) % 16) := by
  have h1 := J.grow_out (Dk.DS.new D.nb D.dur) 16 t L (2 + (t + i) % 16) L.length (fun j hj => by omega)
  have h2 : (J.grow (Dk.DS.new D.nb D.dur) 16 t L L.length).stand (2 + (t + i) % 16) = D.stand (2 + (t + i) % 16) := by
    unfold Dk.DS.stand
    rw [hu]
    rfl
  unfold rg
  rw [← h2, h1]
  rfl
theorem blk_nought (n p : Nat) (h : p * 4096 + 4096 ≤ n) : Dk.blk (Dk.nought n) p = List.replicate 4096 0 := by
  unfold Dk.blk Dk.nought
  rw [List.drop_replicate, List.take_replicate]
  congr 1
  omega
theorem sec_zero (x : Fin 8) : (Rc.sec (List.replicate 4096 0) x.val).take 8 = List.replicate 8 0 := by
  have := x.isLt
  unfold Rc.sec
  rw [List.drop_replicate, List.take_replicate, List.take_replicate]
  congr 1
  omega
theorem noMark_zero {E : Nat} (h1 : 1 ≤ E) (h2 : E ≤ 8388608) (x : Fin 8) : noMark E (Rc.sec (List.replicate 4096 0) x.val) := fun s hs h => by
  rw [sec_zero] at h
  exact Rc.mark_ne h1 h2 hs h.symm
/-- blocks that no epoch E has written -/
def NoE (D : Dk.DS) (t E : Nat) : Prop := ∀ i, i < 16 → ∀ x : Fin 8, noMark E (Rc.sec (Dk.blk D.dur (2 + (t + i) % 16)) x.val)
theorem noE_new {D : Dk.DS} {t E : Nat} (hd : D.dur = Dk.nought (64 * 4096)) (h1 : 1 ≤ E) (h2 : E ≤ 8388608) : NoE D t E := fun i hi x => by
  rw [hd, blk_nought _ _ (by omega)]
  exact noMark_zero h1 h2 x
/-- nothing crashed: all is there, and no more -/
theorem mixd_stand {D : Dk.DS} {t E : Nat} {L : List (List UInt8)} (hu : D.uf = J.wrs 16 t L L.length) (hL : L.length ≤ 16) (hn : NoE D t E) : Mixd D t E 0 L := fun i _ h16 x => by
  by_cases h : i < L.length
  · left
    refine ⟨by omega, ?_⟩
    rw [rg_in hu hL i h]
    rfl
  · right
    rw [rg_out hu i (by omega) h16]
    exact hn i h16 x

/-- a sector behind a torn write -/
theorem sec_carry (d : List UInt8) (b : Nat) (data : List UInt8) (m : Nat) (hb : b * 4096 + 4096 ≤ d.length) (hd : data.length = 4096) (x : Fin 8) : Rc.sec (Dk.blk (Dk.carry d b data m) b) x.val = if Dk.bit m x.val then Rc.sec data x.val else Rc.sec (Dk.blk d b) x.val := by
  have hx := x.isLt
  apply List.ext_getElem?
  intro i
  have g : ∀ l : List UInt8, (Rc.sec l x.val)[i]? = if i < 512 then l[x.val * 512 + i]? else none := fun l => by
    unfold Rc.sec
    rw [List.getElem?_take]
    split
    · rw [List.getElem?_drop]
    · rfl
  rw [g]
  by_cases hi : i < 512
  · obtain ⟨y, hy⟩ : ∃ y, y = x.val * 512 + i := ⟨_, rfl⟩
    have hy1 : y < 4096 := by omega
    have hy2 : y / 512 = x.val := by omega
    rw [if_pos hi, ← hy]
    have h1 := Dk.blk_get (Dk.carry d b data m) b y
    rw [if_pos hy1, Dk.carry_get _ _ _ _ hb hd, Nat.add_sub_cancel_left, hy2] at h1
    rw [h1]
    by_cases hbit : Dk.bit m x.val = true
    · have hc : b * 4096 ≤ b * 4096 + y ∧ b * 4096 + y < b * 4096 + 4096 ∧ Dk.bit m x.val = true := ⟨Nat.le_add_right _ _, Nat.add_lt_add_left hy1 _, hbit⟩
      rw [if_pos hc, if_pos hbit, g, if_pos hi, ← hy]
    · have h2 := Dk.blk_get d b y
      rw [if_pos hy1] at h2
      rw [if_neg (fun h => hbit h.2.2), if_neg hbit, g, if_pos hi, ← hy, h2]
  · rw [if_neg hi]
    split
    · rw [g, if_neg hi]
    · rw [g, if_neg hi]
/-- behind a crash a sector is as it was, or as one of the writes has it -/
theorem crash_sec (D : Dk.DS) (ok : D.Ok) (keep : List Bool) (torn : Int) (m p : Nat) (hp : p < D.nb) (x : Fin 8) : ∀ k, k ≤ D.uf.length →
    Rc.sec (Dk.blk (Dk.crashTo keep torn m D.uf D.dur k) p) x.val = Rc.sec (Dk.blk D.dur p) x.val ∨ ∃ j, ∃ h : j < D.uf.length, (D.uf[j]).1 = p ∧ Rc.sec (Dk.blk (Dk.crashTo keep torn m D.uf D.dur k) p) x.val = Rc.sec (D.uf[j]).2 x.val
  | 0, _ => .inl rfl
  | k + 1, hk => by
    have ih := crash_sec D ok keep torn m p hp x k (by omega)
    have hl := Dk.crashTo_length D ok keep torn m k
    obtain ⟨h1, h2⟩ := ok.at k (by omega)
    have hroom : (D.uf[k]).1 * 4096 + 4096 ≤ (Dk.crashTo keep torn m D.uf D.dur k).length := by rw [hl]; exact ok.room h1
    rw [Dk.crashTo_succ keep torn m D.uf D.dur k (by omega)]
    have key : ∀ mm, (Rc.sec (Dk.blk (Dk.carry (Dk.crashTo keep torn m D.uf D.dur k) (D.uf[k]).1 (D.uf[k]).2 mm) p) x.val = Rc.sec (Dk.blk D.dur p) x.val) ∨ ∃ j, ∃ h : j < D.uf.length, (D.uf[j]).1 = p ∧ Rc.sec (Dk.blk (Dk.carry (Dk.crashTo keep torn m D.uf D.dur k) (D.uf[k]).1 (D.uf[k]).2 mm) p) x.val = Rc.sec (D.uf[j]).2 x.val := fun mm => by
      by_cases e : (D.uf[k]).1 = p
      · rw [← e, sec_carry _ _ _ _ hroom h2 x]
        split
        · exact .inr ⟨k, by omega, rfl, rfl⟩
        · rw [e]
          exact ih
      · rw [Dk.blk_carry_other _ _ _ _ _ hroom h2 (fun h => e h.symm)]
        exact ih
    split
    · exact key m
    · split
      · exact key 255
      · exact ih
theorem wrs_get (S f : Nat) (bs : List (List UInt8)) (k j : Nat) (h : j < (J.wrs S f bs k).length) : (J.wrs S f bs k)[j] = (2 + (f + j) % S, bs.getD j []) := by simp [J.wrs]
/-- behind a crash -/
theorem mixd_crash {D : Dk.DS} {t E : Nat} {L : List (List UInt8)} (ok : D.Ok) (hnb : D.nb = 64) (hu : D.uf = J.wrs 16 t L L.length) (hL : L.length ≤ 16) (hn : NoE D t E) (keep : List Bool) (torn : Int) (m : Nat) : Mixd (D.crash keep torn m) t E 0 L := fun i _ h16 x => by
  have e : rg (D.crash keep torn m) t i = Dk.blk (Dk.crashTo keep torn m D.uf D.dur D.uf.length) (2 + (t + i) % 16) := rfl
  rw [e]
  rcases crash_sec D ok keep torn m (2 + (t + i) % 16) (by omega) x D.uf.length (Nat.le_refl _) with h | ⟨j, hj, h1, h2⟩
  · right
    rw [h]
    exact hn i h16 x
  · have hjl : j < L.length := by rw [hu, J.wrs_length] at hj; exact hj
    have hg : D.uf[j] = (2 + (t + j) % 16, L.getD j []) := by
      have : D.uf[j]? = (J.wrs 16 t L L.length)[j]? := by rw [hu]
      rw [List.getElem?_eq_getElem hj, List.getElem?_eq_getElem (by rw [J.wrs_length]; exact hjl), wrs_get] at this
      exact Option.some.inj this
    rw [hg] at h1 h2
    have hij : i = j := by dsimp only at h1; omega
    subst hij
    left
    refine ⟨by omega, ?_⟩
    rw [h2]
    simp [hjl]
/-- a crash with nothing unflushed -/
theorem rg_calm {D : Dk.DS} (hu : D.uf = []) (keep : List Bool) (torn : Int) (m t i : Nat) : rg (D.crash keep torn m) t i = rg D t i := by
  unfold rg Dk.DS.stand Dk.DS.crash
  simp only [hu]
  rfl
theorem Mixd.congr {D D' : Dk.DS} {t E b : Nat} {L : List (List UInt8)} (h : Mixd D t E b L) (he : ∀ i, i < 16 → rg D' t i = rg D t i) : Mixd D' t E b L := fun i hb h16 x => by
  rw [he i h16]
  exact h i hb h16 x
end Go.Proofs.YtnldkpckojhbhaaGreat.S

/-
  maps.Keys, slices.Sorted, slices.Sort: the contracts of the library, at the numbers of this program.
-/
namespace Go.Proofs.YtnldkpckojhbhaaGreat.H
open Go.RowKit Go.Maps Go.Sort Go.Shelf

def keysA_ren : Go.Shelf.Ren := ⟨fun | 7 => 241 | 10 => 274 | n => n, fun | 23 => 265 | 26 => 3 | 3 => 89 | 28 => 239 | 0 => 0 | 27 => 238 | 33 => 42 | 4 => 4 | n => n, fun n => n⟩
theorem keysA : Go.Proofs.SlLaysZI.n7 Tryz.prog keysA_ren :=
  { mixed := by kernel_rfl
    f7 := ⟨Tryz.f241.name, by decide, Tryz.func241.trans (congrArg some (by kernel_rfl))⟩
    f10 := ⟨Tryz.f274.name, by decide, Tryz.func274.trans (congrArg some (by kernel_rfl))⟩
    t0 := by kernel_rfl
    a0 := Tryz.isAgg0
    z0 := Tryz.sizeOf0
    v0 := Tryz.zeroValue0
    t4 := by kernel_rfl
    a4 := Tryz.isAgg4
    z4 := Tryz.sizeOf4
    v4 := Tryz.zeroValue4
    t23 := by kernel_rfl
    a23 := Tryz.isAgg265
    z23 := Tryz.sizeOf265
    v23 := Tryz.zeroValue265
    t26 := by kernel_rfl
    a26 := Tryz.isAgg3
    z26 := Tryz.sizeOf3
    v26 := Tryz.zeroValue3
    t27 := by kernel_rfl
    a27 := Tryz.isAgg238
    z27 := Tryz.sizeOf238
    v27 := Tryz.zeroValue238
    t28 := by kernel_rfl
    a28 := Tryz.isAgg239
    z28 := Tryz.sizeOf239
    v28 := Tryz.zeroValue239
    t33 := by kernel_rfl
    a33 := Tryz.isAgg42
    z33 := Tryz.sizeOf42
    v33 := Tryz.zeroValue42 }

def sortedA_ren : Go.Shelf.Ren := ⟨fun | 6 => 187 | 8 => 229 | 9 => 180 | 11 => 266 | 13 => 219 | 12 => 218 | 23 => 257 | 24 => 258 | 14 => 248 | 15 => 249 | 16 => 250 | 17 => 251 | 18 => 252 | 19 => 253 | 20 => 254 | 21 => 255 | 22 => 256 | 25 => 278 | 26 => 279 | 27 => 280 | 28 => 281 | 29 => 282 | 30 => 283 | 31 => 293 | n => n, fun | 26 => 3 | 28 => 239 | 24 => 31 | 0 => 0 | 3 => 3 | 37 => 150 | 48 => 216 | 50 => 149 | 4 => 4 | 40 => 297 | 39 => 296 | 45 => 302 | 5 => 5 | 9 => 9 | 51 => 317 | 55 => 321 | 57 => 328 | 58 => 241 | 33 => 42 | n => n, fun n => n⟩
theorem sortedA : Go.Proofs.SlLaysZI.n6 Tryz.prog sortedA_ren :=
  { mixed := by kernel_rfl
    f6 := ⟨Tryz.f187.name, by decide, Tryz.func187.trans (congrArg some (by kernel_rfl))⟩
    f8 := ⟨Tryz.f229.name, by decide, Tryz.func229.trans (congrArg some (by kernel_rfl))⟩
    f11 := ⟨Tryz.f266.name, by decide, Tryz.func266.trans (congrArg some (by kernel_rfl))⟩
    t0 := by kernel_rfl
    a0 := Tryz.isAgg0
    z0 := Tryz.sizeOf0
    v0 := Tryz.zeroValue0
    t24 := by kernel_rfl
    a24 := Tryz.isAgg31
    z24 := Tryz.sizeOf31
    v24 := Tryz.zeroValue31
    t26 := by kernel_rfl
    a26 := Tryz.isAgg3
    z26 := Tryz.sizeOf3
    v26 := Tryz.zeroValue3
    t28 := by kernel_rfl
    a28 := Tryz.isAgg239
    z28 := Tryz.sizeOf239
    v28 := Tryz.zeroValue239
    i26 := by kernel_rfl }

def sortA_ren : Go.Shelf.Ren := ⟨fun | 5 => 180 | 8 => 219 | 7 => 218 | 19 => 257 | 20 => 258 | 10 => 248 | 11 => 249 | 12 => 250 | 13 => 251 | 14 => 252 | 15 => 253 | 16 => 254 | 17 => 255 | 18 => 256 | 30 => 278 | 31 => 279 | 32 => 280 | 33 => 281 | 34 => 282 | 35 => 283 | 40 => 293 | n => n, fun | 23 => 31 | 25 => 3 | 3 => 3 | 32 => 150 | 22 => 31 | 0 => 0 | 44 => 216 | 46 => 149 | 4 => 4 | 36 => 297 | 35 => 296 | 41 => 302 | 5 => 5 | 9 => 9 | 53 => 317 | 57 => 321 | 63 => 328 | 64 => 241 | n => n, fun n => n⟩
theorem sortA : Go.Proofs.SlLaysM.n5 Tryz.prog sortA_ren :=
  { mixed := by kernel_rfl
    f5 := ⟨Tryz.f180.name, by decide, Tryz.func180.trans (congrArg some (by kernel_rfl))⟩
    f7 := ⟨Tryz.f218.name, by decide, Tryz.func218.trans (congrArg some (by kernel_rfl))⟩
    f8 := Tryz.func219.trans (congrArg some (by kernel_rfl))
    f10 := ⟨Tryz.f248.name, by decide, Tryz.func248.trans (congrArg some (by kernel_rfl))⟩
    f11 := ⟨Tryz.f249.name, by decide, Tryz.func249.trans (congrArg some (by kernel_rfl))⟩
    f12 := ⟨Tryz.f250.name, by decide, Tryz.func250.trans (congrArg some (by kernel_rfl))⟩
    f13 := ⟨Tryz.f251.name, by decide, Tryz.func251.trans (congrArg some (by kernel_rfl))⟩
    f14 := ⟨Tryz.f252.name, by decide, Tryz.func252.trans (congrArg some (by kernel_rfl))⟩
    f15 := ⟨Tryz.f253.name, by decide, Tryz.func253.trans (congrArg some (by kernel_rfl))⟩
    f16 := ⟨Tryz.f254.name, by decide, Tryz.func254.trans (congrArg some (by kernel_rfl))⟩
    f17 := ⟨Tryz.f255.name, by decide, Tryz.func255.trans (congrArg some (by kernel_rfl))⟩
    f18 := ⟨Tryz.f256.name, by decide, Tryz.func256.trans (congrArg some (by kernel_rfl))⟩
    f19 := Tryz.func257.trans (congrArg some (by kernel_rfl))
    f20 := Tryz.func258.trans (congrArg some (by kernel_rfl))
    f30 := ⟨Tryz.f278.name, by decide, Tryz.func278.trans (congrArg some (by kernel_rfl))⟩
    f31 := Tryz.func279.trans (congrArg some (by kernel_rfl))
    f32 := Tryz.func280.trans (congrArg some (by kernel_rfl))
    f33 := ⟨Tryz.f281.name, by decide, Tryz.func281.trans (congrArg some (by kernel_rfl))⟩
    f34 := ⟨Tryz.f282.name, by decide, Tryz.func282.trans (congrArg some (by kernel_rfl))⟩
    f35 := ⟨Tryz.f283.name, by decide, Tryz.func283.trans (congrArg some (by kernel_rfl))⟩
    f40 := ⟨Tryz.f293.name, by decide, Tryz.func293.trans (congrArg some (by kernel_rfl))⟩
    t0 := by kernel_rfl
    a0 := Tryz.isAgg0
    z0 := Tryz.sizeOf0
    v0 := Tryz.zeroValue0
    t3 := by kernel_rfl
    a3 := Tryz.isAgg3
    z3 := Tryz.sizeOf3
    v3 := Tryz.zeroValue3
    t4 := by kernel_rfl
    a4 := Tryz.isAgg4
    z4 := Tryz.sizeOf4
    v4 := Tryz.zeroValue4
    t5 := by kernel_rfl
    a5 := Tryz.isAgg5
    z5 := Tryz.sizeOf5
    v5 := Tryz.zeroValue5
    t9 := by kernel_rfl
    a9 := Tryz.isAgg9
    z9 := Tryz.sizeOf9
    v9 := Tryz.zeroValue9
    t22 := by kernel_rfl
    a22 := Tryz.isAgg31
    z22 := Tryz.sizeOf31
    v22 := Tryz.zeroValue31
    t23 := by kernel_rfl
    a23 := Tryz.isAgg31
    z23 := Tryz.sizeOf31
    v23 := Tryz.zeroValue31
    t25 := by kernel_rfl
    a25 := Tryz.isAgg3
    z25 := Tryz.sizeOf3
    v25 := Tryz.zeroValue3
    t32 := by kernel_rfl
    a32 := Tryz.isAgg150
    z32 := Tryz.sizeOf150
    v32 := Tryz.zeroValue150
    t35 := by kernel_rfl
    a35 := Tryz.isAgg296
    z35 := Tryz.sizeOf296
    v35 := Tryz.zeroValue296
    t36 := by kernel_rfl
    a36 := Tryz.isAgg297
    z36 := Tryz.sizeOf297
    v36 := Tryz.zeroValue297
    t41 := by kernel_rfl
    a41 := Tryz.isAgg302
    z41 := Tryz.sizeOf302
    v41 := Tryz.zeroValue302
    t44 := by kernel_rfl
    a44 := Tryz.isAgg216
    z44 := Tryz.sizeOf216
    v44 := Tryz.zeroValue216
    t46 := by kernel_rfl
    a46 := Tryz.isAgg149
    z46 := Tryz.sizeOf149
    v46 := Tryz.zeroValue149
    t53 := by kernel_rfl
    a53 := Tryz.isAgg317
    z53 := Tryz.sizeOf317
    v53 := Tryz.zeroValue317
    t57 := by kernel_rfl
    a57 := Tryz.isAgg321
    z57 := Tryz.sizeOf321
    v57 := Tryz.zeroValue321
    t63 := by kernel_rfl
    a63 := Tryz.isAgg328
    z63 := Tryz.sizeOf328
    v63 := Tryz.zeroValue328
    t64 := by kernel_rfl
    a64 := Tryz.isAgg241
    z64 := Tryz.sizeOf241
    v64 := Tryz.zeroValue241 }

/-- slices.Sort's two contracts, at the fence that asks nothing -/
theorem sortsA (m : Nat) : AnyZI.SortsIn Tryz.prog sortedA_ren Fence.wide m :=
  ⟨fun blk off cap ss W hH hblk hsz => callsIn_wide.2 (AnyM.slices_Sort_int sortA blk off cap ss W hH hblk hsz),
   fun p cap W => callsIn_wide.2 (AnyM.slices_Sort_int_none sortA p cap W)⟩
end Go.Proofs.YtnldkpckojhbhaaGreat.H

/-
  A map of numbers, as a function: made, put, looked up; its keys.
-/
namespace Go.Proofs.YtnldkpckojhbhaaGreat.H
open Go.RowKit Go.Maps

/-- a value is told as itself -/
def rV (v : Value) : Option (DataW Value × List MemPlace) := some (.held v, [])
/-- Block b is a map of at most n numbers that holds m. -/
def MapI (w : World) (b n : Nat) (m : Int → Option Value) : Prop :=
  ∃ D : DataW Value, w.ownsMap Tryz.prog 3 rV b n D ∧ (∀ k, (m k).isSome = true → (Lit.int .i64 k).wf = true) ∧ ∀ k, (Lit.int .i64 k).wf = true → has D (.int .i64 k) = (m k).isSome ∧ ∀ z, D.atKey (.int .i64 k) z = ((m k).map DataW.held).getD z
theorem keyed3 : Keyed Tryz.prog 3 := int_keyed Tryz.underlying3
theorem key3 {k : Int} (h : (Lit.int .i64 k).wf = true) : keyOf Tryz.prog 3 (.int .i64 k) = some (.int .i64 k) := by
  simp [keyOf, mapKey, Tryz.underlying3, h]
theorem MapI.made (w : World) : MapI (w.alloc (.map #[] 0)) w.heap.size 0 (fun _ => none) :=
  ⟨_, World.ownsMap_made w Tryz.prog 3 rV, fun k h => by simp at h, fun k _ => ⟨rfl, fun z => rfl⟩⟩
theorem MapI.lt {w : World} {b n : Nat} {m : Int → Option Value} (h : MapI w b n m) : b < w.heap.size := by obtain ⟨D, h, _⟩ := h; exact h.lt
theorem MapI.below {w w' : World} {b n : Nat} {m : Int → Option Value} (h : MapI w b n m) (hb : Below w.heap.size w w') : MapI w' b n m := by
  have hl := h.lt
  obtain ⟨D, ⟨es, cl, h1, h2⟩, h3⟩ := h
  exact ⟨D, ⟨es, cl, (hb.block b hl).trans h1, h2⟩, h3⟩
theorem MapI.update {w : World} {b n : Nat} {m : Int → Option Value} (h : MapI w b n m) (hn : n < maxLen) (k : Int) (hk : (Lit.int .i64 k).wf = true) (v : Value) :
    ∃ w', (Instr.mapUpdate 265 (.map (some b)) (.int .i64 k) v).run Tryz.prog w = .ok () w' ∧ MapI w' b (n + 1) (fun j => if j = k then some v else m j) ∧ w.grownBy w' (some b) := by
  obtain ⟨D, h1, h2, h3⟩ := h
  obtain ⟨w', r, o, g⟩ := h1.update keyed3 Tryz.underlying265 hn (key3 hk) (show rV v = some (.held v, []) from rfl)
  refine ⟨w', r, ⟨_, o, fun j hj => ?_, fun j hj => ?_⟩, g⟩
  · dsimp only at hj
    by_cases e : j = k
    · rw [e]; exact hk
    · rw [if_neg e] at hj; exact h2 j hj
  · dsimp only
    by_cases e : j = k
    · subst e
      rw [if_pos rfl]
      exact ⟨has_put_same h1.isMap (show WideAt.IsKeyLit (.int .i64 j) from trivial) _, fun z => atKey_put_same h1.isMap (show WideAt.IsKeyLit (.int .i64 j) from trivial) _ z⟩
    · have ne : Lit.int .i64 j ≠ Lit.int .i64 k := fun h => e (by injection h)
      rw [if_neg e, has_put_other ne]
      exact ⟨(h3 j hj).1, fun z => (atKey_put_other ne _ z).trans ((h3 j hj).2 z)⟩
theorem MapI.look {w : World} {b n : Nat} {m : Int → Option Value} (h : MapI w b n m) (k : Int) (v : Value) (hv : m k = some v) :
    (Instr.lookup 265 (.map (some b)) (.int .i64 k) false).run Tryz.prog w = .ok v w := by
  obtain ⟨D, h1, h2, h3⟩ := h
  have hk := h2 k (by rw [hv]; rfl)
  obtain ⟨v', ps, r, e⟩ := h1.lookup keyed3 Tryz.underlying265 (Tryz.zeroValue89 w) (show rV _ = some (.held _, []) from rfl) (key3 hk)
  rw [(h3 k hk).2, hv] at e
  simp [rV] at e
  rw [r, e.1]
/-- the keys: none twice, and just those that m has -/
theorem MapI.keys {w : World} {b n : Nat} {m : Int → Option Value} (h : MapI w b n m) :
    ∃ D : DataW Value, w.ownsMap Tryz.prog 3 rV b n D ∧ (intKeys D).Nodup ∧ ∀ x, x ∈ intKeys D ↔ (m x).isSome = true := by
  obtain ⟨D, h1, h2, h3⟩ := h
  have ht := h1.tidy keyed3
  have hk : ∀ es, D = .map es → ∀ p ∈ es, ∃ x, p.1 = .int .i64 x ∧ (Lit.int .i64 x).wf = true := by
    obtain ⟨es0, cl, _, F, _, e⟩ := h1
    intro es he p hp
    rw [e] at he
    injection he with he
    subst he
    rw [mem_sorted, List.mem_map] at hp
    obtain ⟨x, hx, rfl⟩ := hp
    obtain ⟨y, hy⟩ := F.reads x hx
    obtain ⟨z, _, e2, e3⟩ := keyOf_i64 Tryz.underlying3 (Go.WideElems.rd_key hy)
    refine ⟨z, ?_, e3⟩
    unfold Go.WideElems.rg
    rw [hy]
    exact e2
  obtain ⟨es, rfl, hp⟩ := ht
  have hk := hk es rfl
  refine ⟨_, h1, ?_, fun x => ?_⟩
  · show (es.map fun p => Go.intOf p.1).Nodup
    refine List.pairwise_map.2 (hp.imp_of_mem fun {p q} hp' hq' hne e => hne ?_)
    obtain ⟨a, ha, _⟩ := hk p hp'
    obtain ⟨b, hb, _⟩ := hk q hq'
    rw [ha, hb] at e ⊢
    exact congrArg _ e
  · show x ∈ (es.map fun p => Go.intOf p.1) ↔ _
    rw [List.mem_map]
    constructor
    · rintro ⟨p, hp', rfl⟩
      obtain ⟨a, ha, hw⟩ := hk p hp'
      rw [ha]
      show (m a).isSome = true
      rw [← (h3 a hw).1, has_eq, List.any_eq_true]
      exact ⟨p, hp', by rw [ha]; simp [Lit.sameKey]⟩
    · intro hx
      have hw := h2 x hx
      rw [← (h3 x hw).1, has_eq, List.any_eq_true] at hx
      obtain ⟨p, hp', hs⟩ := hx
      obtain ⟨a, ha, _⟩ := hk p hp'
      rw [ha] at hs
      exact ⟨p, hp', by rw [ha]; simpa [Lit.sameKey, Go.intOf] using hs⟩
end Go.Proofs.YtnldkpckojhbhaaGreat.H

/-
  The law's layout64 and made.
-/
namespace Go.Proofs.YtnldkpckojhbhaaGreat.H
open Go.RowKit
open Go.Proofs.YtnldkpckojhbhaaGreat.Rc (madeL)

def lay : Array Value := #[.int .i64 64, .int .i64 2, .int .i64 16, .int .i64 18, .int .i64 19, .int .i64 4, .int .i64 23]
theorem lay64 : La.layA 64 = lay := by
  have hL : La.lgs 64 = 16 := by decide
  simp [La.layA, hL, lay]
theorem ref64 (w : World) : Calls Tryz.prog 105 #[.int .i64 64] w fun r w' => r = .returned (.tuple #[.agg lay, .int .i64 0]) ∧ Below w.heap.size w w' := by
  have c := La.ref_good 64 w (by decide) (by decide)
  rw [lay64] at c
  exact c
end Go.Proofs.YtnldkpckojhbhaaGreat.H

/-
  Home: the last image of each block stands in a map; then rising.
-/
namespace Go.Proofs.YtnldkpckojhbhaaGreat.H
open Go.RowKit Go.Maps
open Go.Proofs.YtnldkpckojhbhaaGreat.Su (wi)
open Go.Proofs.YtnldkpckojhbhaaGreat.Dk (Box Upd)

abbrev Im := Int × Option Addr × Nat × Nat
def imV (q : Im) : Value := .agg #[.int .i64 q.1, .slice q.2.1 q.2.2.1 q.2.2.2]
/-- the last image of each block -/
def mOf (L : List Im) : Int → Option Value := L.foldl (fun m q => fun j => if j = q.1 then some (imV q) else m j) (fun _ => none)
theorem mOf_snoc (L : List Im) (q : Im) : mOf (L ++ [q]) = fun j => if j = q.1 then some (imV q) else mOf L j := by simp [mOf, List.foldl_append]
theorem mOf_some' : ∀ (L : List Im) (m0 : Int → Option Value) (k : Int) (v : Value), (L.foldl (fun m q => fun j => if j = q.1 then some (imV q) else m j) m0) k = some v → (∃ q ∈ L, q.1 = k ∧ v = imV q) ∨ m0 k = some v
  | [], m0, k, v, h => .inr h
  | q :: r, m0, k, v, h => by
    rw [List.foldl_cons] at h
    rcases mOf_some' r _ k v h with ⟨p, hp, h1, h2⟩ | h
    · exact .inl ⟨p, List.mem_cons_of_mem _ hp, h1, h2⟩
    · by_cases e : k = q.1
      · rw [if_pos e] at h
        injection h with h
        exact .inl ⟨q, List.mem_cons_self .., e.symm, h.symm⟩
      · rw [if_neg e] at h
        exact .inr h
theorem mOf_some (L : List Im) (k : Int) (v : Value) (h : mOf L k = some v) : ∃ q ∈ L, q.1 = k ∧ v = imV q := by
  rcases mOf_some' L _ k v h with h | h
  · exact h
  · cases h
theorem nodup_le : ∀ (l r : List Int), l.Nodup → (∀ x ∈ l, x ∈ r) → l.length ≤ r.length
  | [], r, _, _ => Nat.zero_le _
  | x :: t, r, hn, hs => by
    rw [List.nodup_cons] at hn
    have h1 := hs x (List.mem_cons_self ..)
    have := nodup_le t (r.erase x) hn.2 (fun y hy => (List.mem_erase_of_ne (fun e => hn.1 (by rw [← e]; exact hy))).2 (hs y (List.mem_cons_of_mem _ hy)))
    rw [List.length_erase_of_mem h1] at this
    have h2 := List.length_pos_of_mem h1
    rw [List.length_cons]
    omega

theorem MapI.tight {w : World} {b n : Nat} {m : Int → Option Value} (h : MapI w b n m) (hk : ∀ k, (m k).isSome = true → 0 ≤ k ∧ k < 512) : MapI w b 512 m := by
  obtain ⟨D', h1, hnd, hmem⟩ := h.keys
  obtain ⟨D, ⟨es, cl, e1, e2, e3, e4⟩, h3⟩ := h
  obtain ⟨es', cl', f1, f2, f3, f4⟩ := h1
  rw [e1] at f1
  injection f1 with f1
  injection f1 with f1 f1'
  subst f1
  have hlen : (intKeys D').length = es.size := by
    rw [f4]
    simp [intKeys, length_sorted]
  have hle : (intKeys D').length ≤ 512 := by
    have hsub : ∀ x ∈ intKeys D', x ∈ (List.range 512).map (fun i : Nat => (i : Int)) := fun x hx => by
      obtain ⟨h0, h5⟩ := hk x ((hmem x).1 hx)
      exact List.mem_map.2 ⟨x.toNat, by simp; omega, by omega⟩
    have h2 := nodup_le _ _ hnd hsub
    simpa using h2
  exact ⟨D, ⟨es, cl, e1, e2, by omega, e4⟩, h3⟩

/-- groups in memory -/
structure Gr where
  e : Int
  q : Int
  a : Option Addr
  c : Nat
  is : List Im
def CellsG (w : World) (a : Option Addr) (gs : List Gr) : Prop :=
  0 < gs.length → ∃ b o, a = some ⟨b, o, none⟩ ∧ ∀ j (h : j < gs.length), w.cell? ⟨b, o + j * 3, none⟩ = some (.int .i64 gs[j].e) ∧ w.cell? ⟨b, o + j * 3 + 1, none⟩ = some (.int .i64 gs[j].q) ∧ w.cell? ⟨b, o + j * 3 + 2, none⟩ = some (.slice gs[j].a gs[j].is.length gs[j].c) ∧ CellsI w gs[j].a gs[j].is ∧ gs[j].is.length ≤ 1000000000000
def allIs (gs : List Gr) : List Im := gs.flatMap (·.is)
theorem allIs_take {gs : List Gr} {k : Nat} (h : k < gs.length) : allIs (gs.take (k + 1)) = allIs (gs.take k) ++ gs[k].is := by
  unfold allIs
  rw [List.take_succ_eq_append_getElem h, List.flatMap_append]
  simp
def rightIm (lo hi : Int) (q : Im) : Bool := wi q.1 lo hi
theorem keysIn {lo hi : Int} {L : List Im} (h : L.all (rightIm lo hi) = true) (h0 : 0 ≤ lo) (h1 : hi < 512) : ∀ k, (mOf L k).isSome = true → 0 ≤ k ∧ k < 512 := fun k hk => by
  obtain ⟨v, hv⟩ := Option.isSome_iff_exists.1 hk
  obtain ⟨q, hq, rfl, _⟩ := mOf_some L k v hv
  have := List.all_eq_true.1 h q hq
  simp [rightIm, wi] at this
  omega

/-- what stands in the loops -/
structure St (w : World) (gl gm : Nat) (LA : Array Value) (L : List Im) (lo hi : Int) (u : World) : Prop where
  map : MapI u gm 512 (mOf L)
  all : L.all (rightIm lo hi) = true
  box : Box u gl LA 57
  below : Below w.heap.size w u
theorem St.alloc {w u : World} {gl gm : Nat} {LA : Array Value} {L : List Im} {lo hi : Int} (h : St w gl gm LA L lo hi u) (o : Obj) : St w gl gm LA L lo hi (u.alloc o) :=
  ⟨h.map.below ((Below.refl _ u).alloc (Nat.le_refl _) o), h.all, h.box.alloc o, h.below.alloc h.below.size o⟩
theorem St.put {w u : World} {gl gm : Nat} {LA : Array Value} {L : List Im} {lo hi : Int} (h : St w gl gm LA L lo hi u) (hm : w.heap.size ≤ gm) (hne : gl ≠ gm) (h0 : 0 ≤ lo) (h1 : hi < 512) (q : Im) (hq : rightIm lo hi q = true) :
    ∃ u', (Instr.mapUpdate 265 (.map (some gm)) (.int .i64 q.1) (imV q)).run Tryz.prog u = .ok () u' ∧ St w gl gm LA (L ++ [q]) lo hi u' ∧ u.grownBy u' (some gm) := by
  have hw : (Lit.int .i64 q.1).wf = true := by
    simp [rightIm, wi] at hq
    simp [Lit.wf, IntKind.min, IntKind.max, IntKind.bits, IntKind.signed]
    omega
  obtain ⟨u', r, m, g⟩ := h.map.update (by unfold maxLen; omega) q.1 hw (imV q)
  have ha : (L ++ [q]).all (rightIm lo hi) = true := by rw [List.all_append, h.all]; simpa using hq
  rw [← mOf_snoc] at m
  exact ⟨u', r, ⟨m.tight (keysIn ha h0 h1), ha, (g.block gl h.box.lt (fun e => by injection e with e; exact hne e)).trans h.box, h.below.grown g h.below.size (fun k e => by cases e; exact hm)⟩, g⟩

theorem neq7 (u : World) (a b c d e f g a' b' c' d' e' f' g' : Int) : (binOp .neq 57 (.agg #[.int .i64 a, .int .i64 b, .int .i64 c, .int .i64 d, .int .i64 e, .int .i64 f, .int .i64 g]) (.agg #[.int .i64 a', .int .i64 b', .int .i64 c', .int .i64 d', .int .i64 e', .int .i64 f', .int .i64 g'])).run Tryz.prog u = .ok (.bool (!La.same7 a b c d e f g a' b' c' d' e' f' g')) u := by
  have h := La.eq23 u a b c d e f g a' b' c' d' e' f' g'
  simp only [binOp]
  simp [Op.equal, Op.maxDepth, h]

set_option maxRecDepth 100000 in
set_option maxHeartbeats 4000000 in
theorem home_in (w : World) (nb : Nat) (l1 l2 l3 l4 l5 l6 : Int) (ga : Option Addr) (gn gc : Nat) (gs : List Gr) (Q : Value → World → Prop)
    (hL : La.layA nb = #[.int .i64 nb, .int .i64 l1, .int .i64 l2, .int .i64 l3, .int .i64 l4, .int .i64 l5, .int .i64 l6])
    (h64 : 64 ≤ nb) (h512 : nb ≤ 512) (h3 : 0 ≤ l3) (hgn : gs.length = gn) (hgm : gn ≤ 1000000) (hG : CellsG w ga gs)
    (cR : (allIs gs).all (rightIm l3 (nb - 1)) = true → ∀ u gm, MapI u gm 512 (mOf (allIs gs)) → Below w.heap.size w u → Calls Tryz.prog 208 #[.map (some gm)] u fun r w' => ∃ v, r = .returned v ∧ Q v w' ∧ Below w.heap.size u w') :
    Calls Tryz.prog 161 #[.agg #[.int .i64 nb, .int .i64 l1, .int .i64 l2, .int .i64 l3, .int .i64 l4, .int .i64 l5, .int .i64 l6], .slice ga gn gc] w fun r w' =>
      ((allIs gs).all (rightIm l3 (nb - 1)) = true → ∃ v, r = .returned (.tuple #[v, .int .i64 0]) ∧ Q v w') ∧ ((allIs gs).all (rightIm l3 (nb - 1)) = false → r = .returned (.tuple #[.slice none 0 0, .int .i64 90])) ∧ Below w.heap.size w w' := by
  have al := (Below.refl w.heap.size w).alloc (Nat.le_refl _) (.cells #[.int .i64 nb, .int .i64 l1, .int .i64 l2, .int .i64 l3, .int .i64 l4, .int .i64 l5, .int .i64 l6] 57)
  have x := Box.new w #[.int .i64 nb, .int .i64 l1, .int .i64 l2, .int .i64 l3, .int .i64 l4, .int .i64 l5, .int .i64 l6] 57
  have c0 := x.cell 0
  simp only [List.getElem?_toArray, List.getElem?_cons_zero] at c0
  have cO := La.of_good nb (w.alloc (.cells #[.int .i64 nb, .int .i64 l1, .int .i64 l2, .int .i64 l3, .int .i64 l4, .int .i64 l5, .int .i64 l6] 57)) h64 h512
  rw [hL] at cO
  have HG : Hid (CellsG w ga gs) := hG
  have HN : Hid (gs.length = gn) := hgn
  have HR : Hid ((allIs gs).all (rightIm l3 (nb - 1)) = true → ∀ u gm, MapI u gm 512 (mOf (allIs gs)) → Below w.heap.size w u → Calls Tryz.prog 208 #[.map (some gm)] u fun r w' => ∃ v, r = .returned v ∧ Q v w' ∧ Below w.heap.size u w') := cR
  have H3 : Hid (0 ≤ l3 ∧ (nb : Int) - 1 < 512) := ⟨h3, by omega⟩
  have hq : ∀ u, (binOp .neq 57 (.agg #[.int .i64 nb, .int .i64 l1, .int .i64 l2, .int .i64 l3, .int .i64 l4, .int .i64 l5, .int .i64 l6]) (.agg #[.int .i64 nb, .int .i64 l1, .int .i64 l2, .int .i64 l3, .int .i64 l4, .int .i64 l5, .int .i64 l6])).run Tryz.prog u = .ok (.bool false) u := fun u => by
    rw [neq7]; simp [La.same7]
  have wr1 : IntKind.i64.wrap ((nb : Int) - 1) = nb - 1 := by rw [IntKind.wrap_i64]; omega
  have hmk := @run_makeMap Tryz.prog
  clear hG cR h3 hgn hL
  go_enter Tryz.func161, Tryz.ntmps161
  go_wp2_with fail
  refine Calls.mono cO ?_
  rintro r u1 ⟨rfl, b1⟩
  have B1 := al.trans (b1.mono al.size)
  have x1 := (x.below b1).alloc (.cells #[.int .i64 nb, .int .i64 l1, .int .i64 l2, .int .i64 l3, .int .i64 l4, .int .i64 l5, .int .i64 l6] 57)
  have y1 := Box.new u1 #[.int .i64 nb, .int .i64 l1, .int .i64 l2, .int .i64 l3, .int .i64 l4, .int .i64 l5, .int .i64 l6] 57
  have B2 := B1.alloc B1.size (.cells #[.int .i64 nb, .int .i64 l1, .int .i64 l2, .int .i64 l3, .int .i64 l4, .int .i64 l5, .int .i64 l6] 57)
  have zz : w.heap.size < u1.heap.size := Nat.lt_of_lt_of_le (by simp) b1.size
  have c0 := x1.cell 0
  have c1 := x1.cell 1
  have c2 := x1.cell 2
  have c3 := x1.cell 3
  have c4 := x1.cell 4
  have c5 := x1.cell 5
  have c6 := x1.cell 6
  have d0 := y1.cell 0
  have d1 := y1.cell 1
  have d2 := y1.cell 2
  have d3 := y1.cell 3
  have d4 := y1.cell 4
  have d5 := y1.cell 5
  have d6 := y1.cell 6
  simp only [List.getElem?_toArray, List.getElem?_cons_zero, List.getElem?_cons_succ] at c0 c1 c2 c3 c4 c5 c6 d0 d1 d2 d3 d4 d5 d6
  have S0 : St w w.heap.size (u1.heap.size + 1) #[.int .i64 nb, .int .i64 l1, .int .i64 l2, .int .i64 l3, .int .i64 l4, .int .i64 l5, .int .i64 l6] [] l3 (nb - 1) ((u1.alloc (.cells #[.int .i64 nb, .int .i64 l1, .int .i64 l2, .int .i64 l3, .int .i64 l4, .int .i64 l5, .int .i64 l6] 57)).alloc (.map #[] 0)) := by
    have m := MapI.made (u1.alloc (.cells #[.int .i64 nb, .int .i64 l1, .int .i64 l2, .int .i64 l3, .int .i64 l4, .int .i64 l5, .int .i64 l6] 57))
    rw [show (u1.alloc (.cells #[.int .i64 nb, .int .i64 l1, .int .i64 l2, .int .i64 l3, .int .i64 l4, .int .i64 l5, .int .i64 l6] 57)).heap.size = u1.heap.size + 1 by simp] at m
    exact ⟨m.tight (fun k h => by simp at h), rfl, x1.alloc _, B2.alloc B2.size _⟩
  have HS0 : Hid (St w w.heap.size (u1.heap.size + 1) #[.int .i64 nb, .int .i64 l1, .int .i64 l2, .int .i64 l3, .int .i64 l4, .int .i64 l5, .int .i64 l6] [] l3 (nb - 1) ((u1.alloc (.cells #[.int .i64 nb, .int .i64 l1, .int .i64 l2, .int .i64 l3, .int .i64 l4, .int .i64 l5, .int .i64 l6] 57)).alloc (.map #[] 0))) := S0
  clear cO b1 x al x1 y1 B1 B2 S0
  go_wp2_with fail
  clear c0 c1 c2 c3 c4 c5 c6 d0 d1 d2 d3 d4 d5 d6
  obtain ⟨LA, hLA⟩ : ∃ LA : Array Value, LA = #[.int .i64 nb, .int .i64 l1, .int .i64 l2, .int .i64 l3, .int .i64 l4, .int .i64 l5, .int .i64 l6] := ⟨_, rfl⟩
  have HLA : Hid (LA = #[.int .i64 nb, .int .i64 l1, .int .i64 l2, .int .i64 l3, .int .i64 l4, .int .i64 l5, .int .i64 l6]) := hLA
  rw [← hLA] at HS0
  clear hLA
  have HZ : Hid (w.heap.size < u1.heap.size) := zz
  clear zz
  go_loopw [29] (fun i u => ∃ k : Nat, k ≤ gn ∧ i = .int .i64 (k : Int) ∧ St w w.heap.size (u1.heap.size + 1) LA (allIs (gs.take k)) l3 (nb - 1) u) (fun i _ => gn - (intOf i).toNat)
  case atStart => exact ⟨0, Nat.zero_le _, rfl, by rw [HLA.out] at HS0 ⊢; exact HS0.out⟩
  case round =>
    obtain ⟨k, hk, rfl, hS⟩ := hrel
    have HS : Hid (St w w.heap.size (u1.heap.size + 1) LA (allIs (gs.take k)) l3 (nb - 1) wr) := hS
    have B := hS.below
    clear hS HS0
    by_cases hlt : k < gn
    · have hki : (k : Int) < (gn : Int) := by omega
      have hkl : k < gs.length := by rw [HN.out]; exact hlt
      obtain ⟨b, o, rfl, hcc⟩ := HG.out (by omega)
      obtain ⟨g0, g1, g2, hci, hil⟩ := hcc k hkl
      have hnext : Hid (allIs (gs.take (k + 1)) = allIs (gs.take k) ++ gs[k].is) := allIs_take hkl
      have hmem : Hid (∀ q ∈ gs[k].is, q ∈ allIs gs) := fun q hq => List.mem_flatMap.2 ⟨gs[k], List.getElem_mem hkl, hq⟩
      generalize (gs[k]'hkl) = gr at g0 g1 g2 hci hil hnext hmem
      obtain ⟨ge, gq, ia, ic, is⟩ := gr
      dsimp only at g0 g1 g2 hci hil hnext hmem
      obtain ⟨n, hn⟩ : ∃ n, n = is.length := ⟨_, rfl⟩
      have HNi : Hid (n = is.length) := hn
      rw [← hn] at g2 hil
      clear hn
      have lb := block_lt_of_cell g0
      have e0 := (B.cell (p := ⟨b, o + k * 3, none⟩) lb).trans g0
      have e1 := (B.cell (p := ⟨b, o + k * 3 + 1, none⟩) lb).trans g1
      have e2 := (B.cell (p := ⟨b, o + k * 3 + 2, none⟩) lb).trans g2
      have HCI : Hid (CellsI w ia is) := hci
      have bx := Box.new wr #[.int .i64 ge, .int .i64 gq, .slice ia n ic] 203
      have y2 := bx.cell 2
      simp only [List.getElem?_toArray, List.getElem?_cons_zero, List.getElem?_cons_succ] at y2
      have HS1 : Hid (St w w.heap.size (u1.heap.size + 1) LA (allIs (gs.take k)) l3 (nb - 1) (wr.alloc (.cells #[.int .i64 ge, .int .i64 gq, .slice ia n ic] 203))) := HS.out.alloc _
      clear g0 g1 g2 hcc hci lb bx B
      go_wp2_with fail
      clear e0 e1 e2 y2
      go_loopw [36] (fun i u => ∃ j : Nat, j ≤ n ∧ i = .int .i64 (j : Int) ∧ St w w.heap.size (u1.heap.size + 1) LA (allIs (gs.take k) ++ is.take j) l3 (nb - 1) u) (fun i _ => n - (intOf i).toNat)
      case atStart => exact ⟨0, Nat.zero_le _, rfl, by rw [List.take_zero, List.append_nil]; exact HS1.out⟩
      case round =>
        obtain ⟨j, hj, rfl, hS⟩ := hrel
        have HT : Hid (St w w.heap.size (u1.heap.size + 1) LA (allIs (gs.take k) ++ is.take j) l3 (nb - 1) wr) := hS
        have B := hS.below
        clear hS HS1 HS
        by_cases hjt : j < n
        · have hji : (j : Int) < (n : Int) := by omega
          have hjl : j < is.length := by rw [← HNi.out]; exact hjt
          obtain ⟨b2, o2, rfl, hcc⟩ := HCI.out (by omega)
          obtain ⟨g0, g1⟩ := hcc j hjl
          have hst : Hid (allIs (gs.take k) ++ is.take (j + 1) = (allIs (gs.take k) ++ is.take j) ++ [is[j]]) := by
            show _ = _
            rw [List.take_succ_eq_append_getElem hjl, List.append_assoc]
          have hin : Hid (is[j] ∈ allIs gs) := hmem.out _ (List.getElem_mem hjl)
          generalize (is[j]'hjl) = q at g0 g1 hst hin
          obtain ⟨qb, qa, qn, qc⟩ := q
          dsimp only at g0 g1
          have lb := block_lt_of_cell g0
          have e0 := (B.cell (p := ⟨b2, o2 + j * 2, none⟩) lb).trans g0
          have e1 := (B.cell (p := ⟨b2, o2 + j * 2 + 1, none⟩) lb).trans g1
          have bx := Box.new wr #[.int .i64 qb, .slice qa qn qc] 89
          have S1 := HT.out.alloc (.cells #[.int .i64 qb, .slice qa qn qc] 89)
          have lx := S1.box
          rw [HLA.out] at lx
          have y0 := bx.cell 0
          have y1 := bx.cell 1
          have z0 := lx.cell 0
          have z3 := lx.cell 3
          simp only [List.getElem?_toArray, List.getElem?_cons_zero, List.getElem?_cons_succ] at y0 y1 z0 z3
          have cW := within_at qb l3 (nb - 1) (wr.alloc (.cells #[.int .i64 qb, .slice qa qn qc] 89))
          have BB := S1.below
          clear hcc g0 g1 lb lx B
          cases hr : wi qb l3 (nb - 1) with
          | false =>
            rw [hr] at cW
            have hno : Hid ((allIs gs).all (rightIm l3 (nb - 1)) = false) := by
              show _ = _
              rw [List.all_eq_false]
              exact ⟨_, hin.out, by simp [rightIm, hr]⟩
            clear S1 hr
            go_wp2_with fail
            refine Calls.mono cW ?_
            rintro r u2 ⟨rfl, rfl⟩
            go_wp2_with fail
            exact bodyPost_ret (v := .tuple #[.slice none 0 0, .int .i64 90]) (by simp [results, Tryz.results161, go_sem]) rfl ⟨fun h => (by rw [hno.out] at h; cases h), fun _ => rfl, BB⟩
          | true =>
            rw [hr] at cW
            obtain ⟨u', hrun, S2, gb⟩ := S1.put (by have := HZ.out; omega) (by have := HZ.out; omega) H3.out.1 H3.out.2 (qb, qa, qn, qc) hr
            have HS2 : Hid (St w w.heap.size (u1.heap.size + 1) LA ((allIs (gs.take k) ++ is.take j) ++ [(qb, qa, qn, qc)]) l3 (nb - 1) u') := S2
            unfold imV at hrun
            dsimp only at hrun
            clear S1 S2 gb hr
            go_wp2_with fail
            refine Calls.mono cW ?_
            rintro r u2 ⟨rfl, rfl⟩
            go_wp2_with fail
            go_roundw
            case rel => exact ⟨j + 1, by omega, by push_cast; rfl, by rw [hst.out]; exact HS2.out⟩
            case measure => simp [intOf]; omega
        · have hje : j = n := by omega
          have hS2 : Hid (St w w.heap.size (u1.heap.size + 1) LA (allIs (gs.take (k + 1))) l3 (nb - 1) wr) := by
            have := HT.out
            rw [hje, HNi.out, List.take_length, ← hnext.out] at this
            exact this
          clear HT B
          subst hje
          go_wp2_with fail
          go_roundw
          case rel => exact ⟨k + 1, by omega, by push_cast; rfl, hS2.out⟩
          case measure => simp [intOf]; omega
    · have hke : k = gn := by omega
      have hS2 : St w w.heap.size (u1.heap.size + 1) LA (allIs gs) l3 (nb - 1) wr := by
        have := HS.out
        rw [hke, ← HN.out, List.take_length] at this
        exact this
      have cc := HR.out hS2.all wr (u1.heap.size + 1) hS2.map hS2.below
      have HA : Hid ((allIs gs).all (rightIm l3 (nb - 1)) = true) := hS2.all
      clear HS hS2
      subst hke
      go_wp2_with fail
      refine Calls.mono cc ?_
      rintro r u2 ⟨v, rfl, hQ, b2⟩
      go_wp2_with fail
      exact bodyPost_ret (v := .tuple #[v, .int .i64 0]) (by simp [results, Tryz.results161, go_sem]) rfl ⟨fun _ => ⟨v, rfl, hQ⟩, fun h => (by rw [HA.out] at h; cases h), B.trans b2⟩
end Go.Proofs.YtnldkpckojhbhaaGreat.H

/-
  slices.Sorted(maps.Keys(m)): the keys, by rising numbers.
-/
namespace Go.Proofs.YtnldkpckojhbhaaGreat.H
open Go.RowKit Go.Maps Go.Sort Go.Shelf

theorem keys_at (mb : Option Nat) (W : World) : Calls Tryz.prog 241 #[.map mb] W fun e w' => e = .returned (.func (.func 274) #[] #[.pointer (some ⟨W.heap.size, 0, none⟩)]) ∧ w' = W.alloc (.cells #[.map mb] 265) :=
  (callsIn_wide (n := 5)).1 (AnyZI.keys_in keysA Fence.wide 5 trivial rfl mb W)

/-- ks are m's keys, rising -/
def Rising (m : Int → Option Value) (ks : List Int) : Prop := ks.Pairwise (· < ·) ∧ ∀ x, x ∈ ks ↔ (m x).isSome = true
theorem rising_of {m : Int → Option Value} {ss : List Int} (hnd : ss.Nodup) (hm : ∀ x, x ∈ ss ↔ (m x).isSome = true) : Rising m (ss.mergeSort (fun x y => decide (x ≤ y))) := by
  refine ⟨?_, fun x => by rw [List.mem_mergeSort]; exact hm x⟩
  have h1 := List.pairwise_mergeSort (le := fun x y : Int => decide (x ≤ y)) (fun a b c h1 h2 => by simp only [decide_eq_true_eq] at *; omega) (fun a b => by simp only [Bool.or_eq_true, decide_eq_true_eq]; omega) ss
  have h2 : (ss.mergeSort (fun x y => decide (x ≤ y))).Nodup := (List.mergeSort_perm ss _).nodup_iff.2 hnd
  refine (h1.and h2).imp fun {a b} h => ?_
  have := h.1
  simp only [decide_eq_true_eq] at this
  have := h.2
  omega

theorem sorted_at {w : World} {b n : Nat} {m : Int → Option Value} (h : MapI w b n m) (hn : n ≤ 100000) :
    Calls Tryz.prog 187 #[.func (.func 274) #[] #[.pointer (some ⟨w.heap.size, 0, none⟩)]] (w.alloc (.cells #[.map (some b)] 265)) fun e w' =>
      ∃ v ks, e = .returned v ∧ Rising m ks ∧ ks.length ≤ n ∧ w'.ownsRow w.heap.size 3 1 v ks.length (ks.map encZ) ∧ Below w.heap.size w w' := by
  obtain ⟨D0, hown, hnd, hmem⟩ := h.keys
  have hbl := hown.lt
  have hsz := hown.size_le
  have hseq : SeqGives Fence.wide 2 Tryz.prog 274 #[.pointer (some ⟨w.heap.size, 0, none⟩)] encZ (fun ss => ss.Perm (intKeys D0)) (Maps.size D0) (w.alloc (.cells #[.map (some b)] 265)) :=
    AnyZI.keys_gives (ρ := keysA_ren) { keysA with } Fence.wide _ trivial rfl (by omega) w.heap.size b n D0 _ (by simp) (by simp) (by
      obtain ⟨es, clock, hb, Ft, hs, hD⟩ := hown
      exact ⟨es, clock, (Below.heap_alloc _ _ b hbl).trans hb, Ft, hs, hD⟩)
  have cS := AnyZI.sorted_in sortedA Fence.wide 5 trivial trivial trivial trivial rfl (by omega) (sortsA _) (enters_of Tryz.func180 (by kernel_rfl) rfl) 274 #[.pointer (some ⟨w.heap.size, 0, none⟩)] trivial (enters_of Tryz.func274 (by kernel_rfl) rfl) _ _ (by unfold maxLen; omega) (by omega) _ hseq
  change CallsIn _ _ Tryz.prog 187 _ _ _ at cS
  refine ((callsIn_wide).1 cS).mono ?_
  rintro e w' ⟨v, ss, rfl, hS, hrow, hnil, hb⟩
  have hl : (ss.mergeSort (fun x y => decide (x ≤ y))).length = ss.length := List.length_mergeSort ss
  have hl2 : ss.length = Maps.size D0 := by
    rw [hS.length_eq]
    obtain ⟨es, rfl⟩ := hown.isMap
    simp [intKeys, size_eq]
  refine ⟨v, _, rfl, rising_of (hS.nodup_iff.2 hnd) (fun x => by rw [hS.mem_iff]; exact hmem x), by rw [hl, hl2]; exact hsz, ?_, ((Below.refl _ w).alloc (Nat.le_refl _) _).trans (hb.mono (by simp))⟩
  rw [hl]
  exact owns_le hrow (by simp)
end Go.Proofs.YtnldkpckojhbhaaGreat.H

/-
  rising: the images by rising blocks, each datum a copy.
-/
namespace Go.Proofs.YtnldkpckojhbhaaGreat.H
open Go.RowKit Go.Maps
open Go.Proofs.YtnldkpckojhbhaaGreat.Rc (GG GetJ imgC madeL RowB owns_below owns_shape owns_block Box)

theorem owns_cells {w : World} {B e size n m : Nat} {a : Option Addr} {c : Nat} {xs : List Value} (ho : w.ownsRow B e size (.slice a n c) m xs) (h0 : 0 < m) :
    ∃ g, a = some ⟨g, 0, none⟩ ∧ B ≤ g ∧ (∃ cur, Box w g cur e) ∧ ∀ j, j < m * size → w.cell? ⟨g, j, none⟩ = xs[j]? := by
  rcases ho.2 with ⟨h1, h2⟩ | ⟨g, cap, cur, h1, hBg, hg2, hnc, hcm, hcs, ht⟩
  · omega
  · injection h1 with h1
    subst h1
    have hB : Box w g cur e := hg2
    refine ⟨g, rfl, hBg, ⟨cur, hB⟩, fun j hj => ?_⟩
    rw [hB.cell j, ← ht, List.getElem?_take, if_pos hj]
    simp

/-- what m holds: images of whole blocks -/
def Whole (w : World) (m : Int → Option Value) (dat : Int → List UInt8) : Prop := ∀ k, (m k).isSome = true → ∃ g o c, m k = some (.agg #[.int .i64 k, .slice (some ⟨g, o, none⟩) 4096 c]) ∧ Rc.Rd w (some ⟨g, o, none⟩) (dat k) ∧ (dat k).length = 4096

set_option maxRecDepth 100000 in
set_option maxHeartbeats 4000000 in
theorem rising_at {w : World} {b n : Nat} {m : Int → Option Value} {dat : Int → List UInt8} (h : MapI w b n m) (hn : n ≤ 1000) (hw : Whole w m dat) :
    Calls Tryz.prog 208 #[.map (some b)] w fun r w' => ∃ a' c' ks qs, r = .returned (.slice a' (List.length ks) c') ∧ Rising m ks ∧ ks.length ≤ n ∧ w'.ownsRow w.heap.size 89 2 (.slice a' ks.length c') ks.length (imgC qs) ∧ GetJ w.heap.size w' qs ∧ qs.map (fun p => (p.b, p.xs)) = ks.map (fun k => (k, dat k)) ∧ Below w.heap.size w w' := by
  obtain ⟨i0, hi, hz0, hz1, hz2⟩ := info_parts Rc.info38
  have cK := keys_at (some b) w
  have cS := sorted_at h (by omega : n ≤ 100000)
  have HW : Hid (Whole w m dat) := hw
  have HM : Hid (MapI w b n m) := h
  clear h hw
  go_enter Tryz.func208, Tryz.ntmps208
  go_wp2_with fail
  refine Calls.mono cK ?_
  rintro r u1 ⟨rfl, rfl⟩
  clear cK
  go_wp2_with fail
  refine Calls.mono cS ?_
  rintro r u2 ⟨v, ks, rfl, hR, hkn, hrow, b2⟩
  have HR : Hid (Rising m ks) := hR
  have HRow : Hid (u2.ownsRow w.heap.size 3 1 v ks.length (ks.map encZ)) := hrow
  obtain ⟨ak, ck, rfl⟩ := owns_shape hrow
  obtain ⟨N, hN⟩ : ∃ N, N = ks.length := ⟨_, rfl⟩
  have HN : Hid (N = ks.length) := hN
  rw [← hN] at HRow hkn ⊢
  clear hN hrow hR cS
  go_wp2_with fail
  go_loopw [3, 10] (fun v i u => ∃ (k : Nat) (qs : List GG), k ≤ N ∧ i = .int .i64 (k : Int) ∧ u.ownsRow u2.heap.size 89 2 v k (imgC qs) ∧ GetJ w.heap.size u qs ∧ qs.map (fun p => (p.b, p.xs)) = (ks.take k).map (fun k => (k, dat k)) ∧ Below u2.heap.size u2 u) (fun _ i _ => N - (intOf i).toNat)
  case atStart => exact ⟨0, [], Nat.zero_le _, rfl, World.ownsRow_nil _ _ _ _, ⟨fun p hp => (by cases hp), List.nodup_nil⟩, by simp, Below.refl _ _⟩
  case round =>
    obtain ⟨k, qs, hk, rfl, hown, hJ, hps, B⟩ := hrel
    have HPS : Hid (qs.map (fun p => (p.b, p.xs)) = (ks.take k).map (fun k => (k, dat k))) := hps
    have HJ : Hid (GetJ w.heap.size wr qs) := hJ
    have HOWN : Hid (wr.ownsRow u2.heap.size 89 2 u3 k (imgC qs)) := hown
    clear hps hJ
    obtain ⟨av, cv, rfl⟩ := owns_shape hown
    by_cases hlt : k < N
    · have hki : (k : Int) < (N : Int) := by omega
      have hkl : k < ks.length := by rw [← HN.out]; exact hlt
      obtain ⟨kg, rfl, _, _, hc⟩ := owns_cells HRow.out (by omega)
      obtain ⟨K, hK⟩ : ∃ K, K = ks[k] := ⟨_, rfl⟩
      have ck0 : u2.cell? ⟨kg, k, none⟩ = some (.int .i64 K) := by
        rw [hc k (by omega), hK]
        simp [hkl]
      have ckw : wr.cell? ⟨kg, k, none⟩ = some (.int .i64 K) := (B.cell (p := ⟨kg, k, none⟩) (block_lt_of_cell ck0)).trans ck0
      obtain ⟨g, o, c, em, rd, hl⟩ := HW.out K ((HR.out.2 K).1 (by rw [hK]; exact List.getElem_mem hkl))
      have Bw : Below w.heap.size w wr := b2.trans (B.mono b2.size)
      have lk := (HM.out.below Bw).look K _ em
      have cC := Rc.clone_at c 4096 g o (dat K) wr hl (by decide) (by decide) (rd.below Bw (Nat.le_refl _))
      have hstep : Hid ((ks.take (k + 1)).map (fun k => (k, dat k)) = (ks.take k).map (fun k => (k, dat k)) ++ [(K, dat K)]) := by
        show _ = _
        rw [List.take_succ_eq_append_getElem hkl, List.map_append, hK]; rfl
      have hml : Hid ((dat K).length = 4096) := hl
      generalize dat K = ml at cC hstep hml
      clear hown hc ck0 hK rd hl em
      have fd : (Instr.field 89 (.agg #[.int .i64 K, .slice (some ⟨g, o, none⟩) 4096 c]) 1).run Tryz.prog wr = .ok (.slice (some ⟨g, o, none⟩) 4096 c) wr := by kernel_rfl
      go_wp2_with fail
      refine Calls.mono cC ?_
      rintro r W ⟨hg, cg, rfl, hgl, om, bW⟩
      have z0 : w.heap.size ≤ wr.heap.size := Bw.size
      have J2 : Hid (GetJ w.heap.size W (qs ++ [⟨K, ml, hg, cg⟩])) := HJ.out.snoc bW ⟨K, ml, hg, cg⟩ om hgl hml.out z0
      have O2 : Hid (W.ownsRow u2.heap.size 89 2 (.slice av k cv) k (imgC qs)) := owns_below HOWN.out bW
      have B1 := B.trans (bW.mono B.size)
      have own1 := (O2.out).alloc (.cells #[.int .i64 K, .slice (some ⟨hg, 0, none⟩) 4096 cg] 89)
      have z1 := B1.size
      have z2 := b2.size
      clear om bW cC B fd lk ckw
      go_wp2_with (at_builtin; refine wpList_append_own _ rfl _ _ 29 rfl u2.heap.size 89 i0 _ 2 32 Tryz.underlying29 hi hz0 hz1 hz2 rfl (by decide) _ k _ rfl own1 ⟨W.heap.size, 0, none⟩ 1 1 [.int .i64 K, .slice (some ⟨hg, 0, none⟩) 4096 cg] rfl rfl ?c1 ?c2 ?c3 ?c4 ?c5 ?_)
      case c1 => exact World.news_of_block (cs := #[.int .i64 K, .slice (some ⟨hg, 0, none⟩) 4096 cg]) (t := 89) (fr := (0, 0)) (heap_alloc_new W _)
      case c2 => intro u hu; simp at hu; rcases hu with rfl | rfl <;> rfl
      case c3 => unfold maxLen; omega
      case c4 => omega
      case c5 => simp; omega
      · intro v' w1 hown1 hgrow _
        have al := (Below.refl _ W).alloc (Nat.le_refl _) (.cells #[.int .i64 K, .slice (some ⟨hg, 0, none⟩) 4096 cg] 89)
        have B2 : Below u2.heap.size u2 w1 := (B1.alloc z1 _).grown hgrow (by simp; omega) (fun j e => (owns_block O2.out j e).1)
        have J3 : GetJ w.heap.size w1 (qs ++ [⟨K, ml, hg, cg⟩]) := (J2.out.below al).grown own1 (by decide) hgrow
        clear hgrow own1 al
        go_wp2_with fail
        go_roundw
        case rel => exact ⟨k + 1, _, by omega, by push_cast; rfl, by simpa [imgC] using hown1, J3, by rw [List.map_append, HPS.out, hstep.out]; rfl, B2⟩
        case measure => simp [intOf]; omega
    · have hke : k = N := by omega
      have hke2 : ks.take k = ks := by rw [hke, HN.out, List.take_length]
      rw [hke2] at HPS
      rw [hke] at HOWN ⊢
      clear hke hlt hk hown hke2
      go_wp2_with fail
      go_ret
      refine ⟨av, cv, ks, qs, by rw [HN.out]; rfl, HR.out, by rw [← HN.out]; exact hkn, ?_, HJ.out, HPS.out, b2.trans (B.mono b2.size)⟩
      rw [← HN.out]
      exact owns_le HOWN.out b2.size
end Go.Proofs.YtnldkpckojhbhaaGreat.H

/-
  Home of images of whole blocks: each block's last one, rising.
-/
namespace Go.Proofs.YtnldkpckojhbhaaGreat.H
open Go.RowKit Go.Maps
open Go.Proofs.YtnldkpckojhbhaaGreat.Rc (GG GetJ imgC Imgs)
open Go.Proofs.YtnldkpckojhbhaaGreat.Dk (Box Upd)

/-- the last image's bytes of a block -/
def lastD (L : List (Int × List UInt8)) (k : Int) : Option (List UInt8) := L.foldl (fun o p => if p.1 = k then some p.2 else o) none
def datD (L : List (Int × List UInt8)) (k : Int) : List UInt8 := (lastD L k).getD []
theorem last_both' : ∀ (L : List ImD) (m0 : Int → Option Value) (o0 : Option (List UInt8)) (k : Int),
    (∃ p ∈ L, p.1.1 = k ∧ ((L.map (·.1)).foldl (fun m q => fun j => if j = q.1 then some (imV q) else m j) m0) k = some (imV p.1) ∧ (pl L).foldl (fun o p => if p.1 = k then some p.2 else o) o0 = some p.2) ∨
    (((L.map (·.1)).foldl (fun m q => fun j => if j = q.1 then some (imV q) else m j) m0) k = m0 k ∧ (pl L).foldl (fun o p => if p.1 = k then some p.2 else o) o0 = o0 ∧ ∀ p ∈ L, p.1.1 ≠ k)
  | [], m0, o0, k => .inr ⟨rfl, rfl, fun p h => by cases h⟩
  | q :: r, m0, o0, k => by
    rw [List.map_cons, List.foldl_cons, pl, List.map_cons, List.foldl_cons]
    by_cases e : k = q.1.1
    · rcases last_both' r (fun j => if j = q.1.1 then some (imV q.1) else m0 j) (if q.1.1 = k then some q.2 else o0) k with ⟨p, hp, h1, h2, h3⟩ | ⟨h1, h2, h3⟩
      · exact .inl ⟨p, List.mem_cons_of_mem _ hp, h1, h2, h3⟩
      · refine .inl ⟨q, List.mem_cons_self .., e.symm, ?_, ?_⟩
        · rw [h1, if_pos e]
        · exact h2.trans (if_pos e.symm)
    · rcases last_both' r (fun j => if j = q.1.1 then some (imV q.1) else m0 j) (if q.1.1 = k then some q.2 else o0) k with ⟨p, hp, h1, h2, h3⟩ | ⟨h1, h2, h3⟩
      · exact .inl ⟨p, List.mem_cons_of_mem _ hp, h1, h2, h3⟩
      · refine .inr ⟨?_, h2.trans (if_neg (fun h => e h.symm)), fun p hp => ?_⟩
        · rw [h1, if_neg e]
        · rcases List.mem_cons.1 hp with rfl | hp
          · exact fun h => e h.symm
          · exact h3 p hp
theorem last_both (L : List ImD) (k : Int) : (∃ p ∈ L, p.1.1 = k ∧ mOf (L.map (·.1)) k = some (imV p.1) ∧ lastD (pl L) k = some p.2) ∨ (mOf (L.map (·.1)) k = none ∧ lastD (pl L) k = none ∧ ∀ p ∈ L, p.1.1 ≠ k) := last_both' L _ _ k

theorem whole_of {w : World} {L : List ImD} (h : ∀ p ∈ L, Dk.Rd w p.1.2.1 p.2 ∧ p.2.length = 4096 ∧ p.1.2.2.1 = 4096) : Whole w (mOf (L.map (·.1))) (datD (pl L)) := fun k hk => by
  rcases last_both L k with ⟨p, hp, h1, h2, h3⟩ | ⟨h1, _⟩
  · obtain ⟨r1, r2, r3⟩ := h p hp
    obtain ⟨⟨pb, pa, pn, pc⟩, xs⟩ := p
    dsimp only at h1 h2 h3 r1 r2 r3
    subst h1 r3
    obtain ⟨b, o, rfl, hc⟩ := r1 (by omega)
    have ed : datD (pl L) pb = xs := by rw [datD, h3]; rfl
    refine ⟨b, o, pc, h2, ?_, by rw [ed]; exact r2⟩
    rw [ed]
    exact r1
  · rw [h1] at hk
    cases hk
theorem rising_last {L : List ImD} {ks : List Int} (h : Rising (mOf (L.map (·.1))) ks) : ks.Pairwise (· < ·) ∧ ∀ x, x ∈ ks ↔ (lastD (pl L) x).isSome = true := by
  refine ⟨h.1, fun x => (h.2 x).trans ?_⟩
  rcases last_both L x with ⟨p, hp, h1, h2, h3⟩ | ⟨h1, h2, _⟩
  · rw [h2, h3]; simp
  · rw [h1, h2]; simp

theorem GetJ.le {B B' : Nat} {w : World} {qs : List GG} (h : GetJ B w qs) (hb : B' ≤ B) : GetJ B' w qs := ⟨fun p hp => ⟨(h.rows p hp).1, Nat.le_trans hb (h.rows p hp).2.1, (h.rows p hp).2.2⟩, h.apart⟩

/-- what Home answers: ks are the blocks, rising -/
structure HomeR (B : Nat) (L : List (Int × List UInt8)) (ks : List Int) (qs : List GG) (a : Option Addr) (c : Nat) (w : World) : Prop where
  rise : ks.Pairwise (· < ·)
  keys : ∀ x, x ∈ ks ↔ (lastD L x).isSome = true
  len : ks.length ≤ 512
  row : w.ownsRow B 89 2 (.slice a ks.length c) ks.length (imgC qs)
  get : GetJ B w qs
  bytes : qs.map (fun p => (p.b, p.xs)) = ks.map (fun k => (k, datD L k))

theorem home_at (w : World) (ga : Option Addr) (gn gc : Nat) (gs : List Gr) (L : List ImD) (hgn : gs.length = gn) (hgm : gn ≤ 1000000) (hG : CellsG w ga gs) (hL : allIs gs = L.map (·.1)) (hD : ∀ p ∈ L, Dk.Rd w p.1.2.1 p.2 ∧ p.2.length = 4096 ∧ p.1.2.2.1 = 4096) (hR : ∀ p ∈ L, 18 ≤ p.1.1 ∧ p.1.1 ≤ 63) :
    Calls Tryz.prog 161 #[.agg lay, .slice ga gn gc] w fun r w' => ∃ a c ks qs, r = .returned (.tuple #[.slice a (List.length ks) c, .int .i64 0]) ∧ HomeR w.heap.size (pl L) ks qs a c w' ∧ Below w.heap.size w w' := by
  have hall : (allIs gs).all (rightIm 18 ((64 : Nat) - 1)) = true := by
    rw [hL, List.all_eq_true]
    intro q hq
    obtain ⟨p, hp, rfl⟩ := List.mem_map.1 hq
    have := hR p hp
    simp [rightIm, Su.wi]
    omega
  have c := home_in w 64 2 16 18 19 4 23 ga gn gc gs (fun v w' => ∃ a c ks qs, v = .slice a (List.length ks) c ∧ HomeR w.heap.size (pl L) ks qs a c w') lay64 (by decide) (by decide) (by decide) hgn hgm hG (fun _ u gm hm hb => by
    rw [hL] at hm
    refine (rising_at hm (by decide) (whole_of (fun p hp => ?_))).mono ?_
    · obtain ⟨h1, h2, h3⟩ := hD p hp
      exact ⟨h1.below hb (Nat.le_refl _), h2, h3⟩
    · rintro r w' ⟨a', c', ks, qs, rfl, h1, h2, h3, h4, h5, h6⟩
      exact ⟨_, rfl, ⟨a', c', ks, qs, rfl, (rising_last h1).1, (rising_last h1).2, h2, owns_le h3 hb.size, GetJ.le h4 hb.size, h5⟩, h6.mono hb.size⟩)
  refine c.mono ?_
  rintro r w' ⟨h1, _, h3⟩
  obtain ⟨v, rfl, a, c, ks, qs, rfl, hh⟩ := h1 hall
  exact ⟨a, c, ks, qs, rfl, hh, h3⟩
theorem home_no (w : World) (ga : Option Addr) (gn gc : Nat) (gs : List Gr) (hgn : gs.length = gn) (hgm : gn ≤ 1000000) (hG : CellsG w ga gs) (hno : (allIs gs).all (rightIm 18 63) = false) :
    Calls Tryz.prog 161 #[.agg lay, .slice ga gn gc] w fun r w' => r = .returned (.tuple #[.slice none 0 0, .int .i64 90]) ∧ Below w.heap.size w w' := by
  have c := home_in w 64 2 16 18 19 4 23 ga gn gc gs (fun _ _ => False) lay64 (by decide) (by decide) (by decide) hgn hgm hG (fun h => by
    have h : (allIs gs).all (rightIm 18 63) = true := h
    rw [hno] at h
    cases h)
  refine c.mono ?_
  rintro r w' ⟨_, h2, h3⟩
  exact ⟨h2 hno, h3⟩

/-- images in memory, for those who read them -/
theorem HomeR.imgs {B : Nat} {L : List (Int × List UInt8)} {ks : List Int} {qs : List GG} {a : Option Addr} {c : Nat} {w : World} (h : HomeR B L ks qs a c w) : Imgs w a (ks.map fun k => (k, datD L k)) := by
  rw [← h.bytes]
  have hq : qs.length = ks.length := by simpa using congrArg List.length h.bytes
  intro hp
  have hp2 : 0 < qs.length := by simpa using hp
  obtain ⟨g, rfl, _, _, hc⟩ := owns_cells h.row (by omega)
  refine ⟨g, 0, rfl, fun j hj => ?_⟩
  have hj : j < qs.length := by simpa using hj
  obtain ⟨e1, e2⟩ := Rc.imgC_at qs j hj
  obtain ⟨r1, r2, r3⟩ := h.get.rows qs[j] (List.getElem_mem hj)
  obtain ⟨cur, _, k1, k2, _⟩ := id r1
  rw [List.getElem_map]
  refine ⟨?_, some ⟨qs[j].h, 0, none⟩, qs[j].c, ?_, k1, by unfold maxLen at k2; omega, fun h => (by cases h), r1.rd⟩
  · show w.cell? ⟨g, 0 + j * 2, none⟩ = _
    rw [Nat.zero_add, hc _ (by omega), e1]
  · show w.cell? ⟨g, 0 + j * 2 + 1, none⟩ = some (.slice (some ⟨qs[j].h, 0, none⟩) qs[j].xs.length qs[j].c)
    rw [Nat.zero_add, hc _ (by omega), e2, r3]
def qD (qs : List GG) : List ImD := qs.map fun p => ((p.b, some ⟨p.h, 0, none⟩, 4096, p.c), p.xs)
theorem HomeR.imsD {B : Nat} {L : List (Int × List UInt8)} {ks : List Int} {qs : List GG} {a : Option Addr} {c : Nat} {w : World} (h : HomeR B L ks qs a c w) (F : Nat → Prop) (hF : ∀ i, F i → i < B) : ImsD w a (qD qs) F ∧ (qD qs).length = ks.length ∧ pl (qD qs) = ks.map fun k => (k, datD L k) := by
  have hq : qs.length = ks.length := by simpa using congrArg List.length h.bytes
  refine ⟨⟨fun hp => ?_, fun p hp => ?_, fun ad e => ?_⟩, by simp [qD, hq], by rw [← h.bytes]; simp [qD, pl]⟩
  · have hp2 : 0 < qs.length := by simpa [qD] using hp
    obtain ⟨g, rfl, _, _, hc⟩ := owns_cells h.row (by omega)
    refine ⟨g, 0, rfl, fun j hj => ?_⟩
    have hj : j < qs.length := by simpa [qD] using hj
    obtain ⟨e1, e2⟩ := Rc.imgC_at qs j hj
    simp only [qD, List.getElem_map, List.map_map]
    refine ⟨?_, ?_⟩
    · rw [Nat.zero_add, hc _ (by omega), e1]
      rfl
    · rw [Nat.zero_add, hc _ (by omega), e2]
      rfl
  · obtain ⟨q, hq, rfl⟩ := List.mem_map.1 hp
    obtain ⟨r1, r2, r3⟩ := h.get.rows q hq
    exact ⟨r1.rd, r3, fun ad e => by
      injection e with e
      rw [← e]
      exact ⟨r1.lt, fun hf => absurd r2 (Nat.not_le.2 (hF _ hf))⟩⟩
  · intro hf
    have := hF _ hf
    rcases h.row.2 with ⟨h1, h2⟩ | ⟨g, cap, cur, h1, hBg, _⟩
    · injection h1 with h1
      rw [h1] at e
      cases e
    · injection h1 with h1
      rw [h1] at e
      injection e with e
      rw [← e] at this
      exact absurd hBg (Nat.not_le.2 this)
end Go.Proofs.YtnldkpckojhbhaaGreat.H

/-
  Choose.
-/
namespace Go.Proofs.YtnldkpckojhbhaaGreat.H
open Go.RowKit
open Go.Proofs.YtnldkpckojhbhaaGreat.Su (wi Sup zeroS supV getSuper GetsS erG Rd)
open Go.Proofs.YtnldkpckojhbhaaGreat.Dk (Box)

/-- what counts, which one, whether -/
def choose : Option Sup → Option Sup → Sup × Int × Bool
  | none, none => (zeroS, 0, false)
  | none, some y => (y, 1, true)
  | some x, none => (x, 0, true)
  | some x, some y => if later y x then (y, 1, true) else (x, 0, true)

/-- the walk, whatever the two say -/
theorem choose_in (a b : Value) (e1 e2 : Int) (x y : Sup) (L : Bool) (s : Sup) (k : Int) (ok : Bool) (w : World)
    (cA : ∀ u, Below w.heap.size w u → Calls Tryz.prog 185 #[a] u fun r w' => r = .returned (.tuple #[supV x, .int .i64 e1]) ∧ Below u.heap.size u w')
    (cB : ∀ u, Below w.heap.size w u → Calls Tryz.prog 185 #[b] u fun r w' => r = .returned (.tuple #[supV y, .int .i64 e2]) ∧ Below u.heap.size u w')
    (hL : later y x = L)
    (h : (e1 = 30 ∧ e2 = 30 ∧ s = zeroS ∧ k = 0 ∧ ok = false) ∨ (e1 = 30 ∧ e2 = 0 ∧ s = y ∧ k = 1 ∧ ok = true) ∨ (e1 = 0 ∧ e2 = 30 ∧ s = x ∧ k = 0 ∧ ok = true) ∨ (e1 = 0 ∧ e2 = 0 ∧ L = true ∧ s = y ∧ k = 1 ∧ ok = true) ∨ (e1 = 0 ∧ e2 = 0 ∧ L = false ∧ s = x ∧ k = 0 ∧ ok = true)) :
    Calls Tryz.prog 143 #[a, b] w fun r w' => r = .returned (.tuple #[supV s, .int .i64 k, .bool ok]) ∧ Below w.heap.size w w' := by
  have al := (Below.refl w.heap.size w).alloc (Nat.le_refl _) (.cells #[.int .i64 0, .int .i64 0, .int .i64 0, .int .i64 0] 141)
  have bz := Box.new w #[.int .i64 0, .int .i64 0, .int .i64 0, .int .i64 0] 141
  have cA1 := cA _ al
  have cLt : ∀ u, Calls Tryz.prog 186 #[supV y, supV x] u fun r w' => r = .returned (.bool L) ∧ Below u.heap.size u w' := fun u => hL ▸ later_at y x u
  have HC : Hid (∀ u, Below w.heap.size w u → Calls Tryz.prog 185 #[b] u fun r w' => r = .returned (.tuple #[supV y, .int .i64 e2]) ∧ Below u.heap.size u w') := cB
  have HL : Hid (∀ u, Calls Tryz.prog 186 #[supV y, supV x] u fun r w' => r = .returned (.bool L) ∧ Below u.heap.size u w') := cLt
  clear cA cB cLt hL
  obtain ⟨xb, xe, xq, xt⟩ := x
  obtain ⟨yb, ye, yq, yt⟩ := y
  unfold supV at cA1
  dsimp only at cA1
  go_enter Tryz.func143, Tryz.ntmps143
  go_wp2_with fail
  refine Calls.mono cA1 ?_
  rintro r u1 ⟨rfl, b1⟩
  have B1 := al.trans (b1.mono al.size)
  have bz1 := (bz.below b1).alloc (.cells #[.int .i64 xb, .int .i64 xe, .int .i64 xq, .int .i64 xt] 141)
  have bx1 := Box.new u1 #[.int .i64 xb, .int .i64 xe, .int .i64 xq, .int .i64 xt] 141
  have B2 := B1.alloc B1.size (.cells #[.int .i64 xb, .int .i64 xe, .int .i64 xq, .int .i64 xt] 141)
  have cB1 := HC.out _ B2
  unfold supV at cB1
  dsimp only at cB1
  clear al bz cA1 b1
  go_wp2_with fail
  refine Calls.mono cB1 ?_
  rintro r u2 ⟨rfl, b2⟩
  have B3 := B2.trans (b2.mono B2.size)
  have bz2 := (bz1.below b2).alloc (.cells #[.int .i64 yb, .int .i64 ye, .int .i64 yq, .int .i64 yt] 141)
  have bx2 := (bx1.below b2).alloc (.cells #[.int .i64 yb, .int .i64 ye, .int .i64 yq, .int .i64 yt] 141)
  have by2 := Box.new u2 #[.int .i64 yb, .int .i64 ye, .int .i64 yq, .int .i64 yt] 141
  have B4 := B3.alloc B3.size (.cells #[.int .i64 yb, .int .i64 ye, .int .i64 yq, .int .i64 yt] 141)
  clear HC cB1 bz1 bx1 b2 B2 B1
  rcases h with ⟨rfl, rfl, rfl, rfl, rfl⟩ | ⟨rfl, rfl, rfl, rfl, rfl⟩ | ⟨rfl, rfl, rfl, rfl, rfl⟩ | ⟨rfl, rfl, rfl, rfl, rfl, rfl⟩ | ⟨rfl, rfl, rfl, rfl, rfl, rfl⟩
  · clear HL
    have f0 := bz2.frozen 0
    have n0 := bz2.cell 0
    have f1 := bz2.frozen 1
    have n1 := bz2.cell 1
    have f2 := bz2.frozen 2
    have n2 := bz2.cell 2
    have f3 := bz2.frozen 3
    have n3 := bz2.cell 3
    simp only [List.getElem?_toArray, List.getElem?_cons_zero, List.getElem?_cons_succ] at n0 n1 n2 n3
    go_wp2_with fail
    have Z := ((((bz2.store 0 (.int .i64 0)).store 1 (.int .i64 0)).store 2 (.int .i64 0)).store 3 (.int .i64 0))
    have C := ((((B4.setCell (p := ⟨w.heap.size, 0, none⟩) (Nat.le_refl _) (.int .i64 0)).setCell (p := ⟨w.heap.size, 1, none⟩) (Nat.le_refl _) (.int .i64 0)).setCell (p := ⟨w.heap.size, 2, none⟩) (Nat.le_refl _) (.int .i64 0)).setCell (p := ⟨w.heap.size, 3, none⟩) (Nat.le_refl _) (.int .i64 0))
    generalize (((((u2.alloc (.cells #[.int .i64 yb, .int .i64 ye, .int .i64 yq, .int .i64 yt] 141)).setCell ⟨w.heap.size, 0, none⟩ (.int .i64 0)).setCell ⟨w.heap.size, 1, none⟩ (.int .i64 0)).setCell ⟨w.heap.size, 2, none⟩ (.int .i64 0)).setCell ⟨w.heap.size, 3, none⟩ (.int .i64 0)) = W9 at Z C ⊢
    clear n0 n1 n2 n3
    have m0 := Z.cell 0
    have m1 := Z.cell 1
    have m2 := Z.cell 2
    have m3 := Z.cell 3
    simp at m0 m1 m2 m3
    refine bodyPost_ret (v := .tuple #[.agg #[.int .i64 0, .int .i64 0, .int .i64 0, .int .i64 0], .int .i64 0, .bool false]) (by simp [results, Tryz.results143, go_sem, m0, m1, m2, m3]) rfl ?_
    exact ⟨rfl, C⟩
  · clear HL
    have f0 := bz2.frozen 0
    have n0 := bz2.cell 0
    have f1 := bz2.frozen 1
    have n1 := bz2.cell 1
    have f2 := bz2.frozen 2
    have n2 := bz2.cell 2
    have f3 := bz2.frozen 3
    have n3 := bz2.cell 3
    simp only [List.getElem?_toArray, List.getElem?_cons_zero, List.getElem?_cons_succ] at n0 n1 n2 n3
    have k0 := by2.cell 0
    have k1 := by2.cell 1
    have k2 := by2.cell 2
    have k3 := by2.cell 3
    simp only [List.getElem?_toArray, List.getElem?_cons_zero, List.getElem?_cons_succ] at k0 k1 k2 k3
    go_wp2_with fail
    have Z := ((((bz2.store 0 (.int .i64 yb)).store 1 (.int .i64 ye)).store 2 (.int .i64 yq)).store 3 (.int .i64 yt))
    have C := ((((B4.setCell (p := ⟨w.heap.size, 0, none⟩) (Nat.le_refl _) (.int .i64 yb)).setCell (p := ⟨w.heap.size, 1, none⟩) (Nat.le_refl _) (.int .i64 ye)).setCell (p := ⟨w.heap.size, 2, none⟩) (Nat.le_refl _) (.int .i64 yq)).setCell (p := ⟨w.heap.size, 3, none⟩) (Nat.le_refl _) (.int .i64 yt))
    generalize (((((u2.alloc (.cells #[.int .i64 yb, .int .i64 ye, .int .i64 yq, .int .i64 yt] 141)).setCell ⟨w.heap.size, 0, none⟩ (.int .i64 yb)).setCell ⟨w.heap.size, 1, none⟩ (.int .i64 ye)).setCell ⟨w.heap.size, 2, none⟩ (.int .i64 yq)).setCell ⟨w.heap.size, 3, none⟩ (.int .i64 yt)) = W9 at Z C ⊢
    clear n0 n1 n2 n3
    have m0 := Z.cell 0
    have m1 := Z.cell 1
    have m2 := Z.cell 2
    have m3 := Z.cell 3
    simp at m0 m1 m2 m3
    refine bodyPost_ret (v := .tuple #[.agg #[.int .i64 yb, .int .i64 ye, .int .i64 yq, .int .i64 yt], .int .i64 1, .bool true]) (by simp [results, Tryz.results143, go_sem, m0, m1, m2, m3]) rfl ?_
    exact ⟨rfl, C⟩
  · clear HL
    have f0 := bz2.frozen 0
    have n0 := bz2.cell 0
    have f1 := bz2.frozen 1
    have n1 := bz2.cell 1
    have f2 := bz2.frozen 2
    have n2 := bz2.cell 2
    have f3 := bz2.frozen 3
    have n3 := bz2.cell 3
    simp only [List.getElem?_toArray, List.getElem?_cons_zero, List.getElem?_cons_succ] at n0 n1 n2 n3
    have k0 := bx2.cell 0
    have k1 := bx2.cell 1
    have k2 := bx2.cell 2
    have k3 := bx2.cell 3
    simp only [List.getElem?_toArray, List.getElem?_cons_zero, List.getElem?_cons_succ] at k0 k1 k2 k3
    go_wp2_with fail
    have Z := ((((bz2.store 0 (.int .i64 xb)).store 1 (.int .i64 xe)).store 2 (.int .i64 xq)).store 3 (.int .i64 xt))
    have C := ((((B4.setCell (p := ⟨w.heap.size, 0, none⟩) (Nat.le_refl _) (.int .i64 xb)).setCell (p := ⟨w.heap.size, 1, none⟩) (Nat.le_refl _) (.int .i64 xe)).setCell (p := ⟨w.heap.size, 2, none⟩) (Nat.le_refl _) (.int .i64 xq)).setCell (p := ⟨w.heap.size, 3, none⟩) (Nat.le_refl _) (.int .i64 xt))
    generalize (((((u2.alloc (.cells #[.int .i64 yb, .int .i64 ye, .int .i64 yq, .int .i64 yt] 141)).setCell ⟨w.heap.size, 0, none⟩ (.int .i64 xb)).setCell ⟨w.heap.size, 1, none⟩ (.int .i64 xe)).setCell ⟨w.heap.size, 2, none⟩ (.int .i64 xq)).setCell ⟨w.heap.size, 3, none⟩ (.int .i64 xt)) = W9 at Z C ⊢
    clear n0 n1 n2 n3
    have m0 := Z.cell 0
    have m1 := Z.cell 1
    have m2 := Z.cell 2
    have m3 := Z.cell 3
    simp at m0 m1 m2 m3
    refine bodyPost_ret (v := .tuple #[.agg #[.int .i64 xb, .int .i64 xe, .int .i64 xq, .int .i64 xt], .int .i64 0, .bool true]) (by simp [results, Tryz.results143, go_sem, m0, m1, m2, m3]) rfl ?_
    exact ⟨rfl, C⟩
  · have k0 := bx2.cell 0
    have k1 := bx2.cell 1
    have k2 := bx2.cell 2
    have k3 := bx2.cell 3
    have j0 := by2.cell 0
    have j1 := by2.cell 1
    have j2 := by2.cell 2
    have j3 := by2.cell 3
    simp only [List.getElem?_toArray, List.getElem?_cons_zero, List.getElem?_cons_succ] at k0 k1 k2 k3 j0 j1 j2 j3
    have cL := HL.out (u2.alloc (.cells #[.int .i64 yb, .int .i64 ye, .int .i64 yq, .int .i64 yt] 141))
    unfold supV at cL
    dsimp only at cL
    clear HL
    go_wp2_with fail
    refine Calls.mono cL ?_
    rintro r u3 ⟨rfl, b3⟩
    have B5 := B4.trans (b3.mono B4.size)
    have bz3 := bz2.below b3
    have bx3 := bx2.below b3
    have by3 := by2.below b3
    clear k0 k1 k2 k3 j0 j1 j2 j3 cL bz2 bx2 by2 B4 B3 b3
    have f0 := bz3.frozen 0
    have n0 := bz3.cell 0
    have f1 := bz3.frozen 1
    have n1 := bz3.cell 1
    have f2 := bz3.frozen 2
    have n2 := bz3.cell 2
    have f3 := bz3.frozen 3
    have n3 := bz3.cell 3
    simp only [List.getElem?_toArray, List.getElem?_cons_zero, List.getElem?_cons_succ] at n0 n1 n2 n3
    have k0 := by3.cell 0
    have k1 := by3.cell 1
    have k2 := by3.cell 2
    have k3 := by3.cell 3
    simp only [List.getElem?_toArray, List.getElem?_cons_zero, List.getElem?_cons_succ] at k0 k1 k2 k3
    go_wp2_with fail
    have Z := ((((bz3.store 0 (.int .i64 yb)).store 1 (.int .i64 ye)).store 2 (.int .i64 yq)).store 3 (.int .i64 yt))
    have C := ((((B5.setCell (p := ⟨w.heap.size, 0, none⟩) (Nat.le_refl _) (.int .i64 yb)).setCell (p := ⟨w.heap.size, 1, none⟩) (Nat.le_refl _) (.int .i64 ye)).setCell (p := ⟨w.heap.size, 2, none⟩) (Nat.le_refl _) (.int .i64 yq)).setCell (p := ⟨w.heap.size, 3, none⟩) (Nat.le_refl _) (.int .i64 yt))
    generalize ((((u3.setCell ⟨w.heap.size, 0, none⟩ (.int .i64 yb)).setCell ⟨w.heap.size, 1, none⟩ (.int .i64 ye)).setCell ⟨w.heap.size, 2, none⟩ (.int .i64 yq)).setCell ⟨w.heap.size, 3, none⟩ (.int .i64 yt)) = W9 at Z C ⊢
    clear n0 n1 n2 n3
    have m0 := Z.cell 0
    have m1 := Z.cell 1
    have m2 := Z.cell 2
    have m3 := Z.cell 3
    simp at m0 m1 m2 m3
    refine bodyPost_ret (v := .tuple #[.agg #[.int .i64 yb, .int .i64 ye, .int .i64 yq, .int .i64 yt], .int .i64 1, .bool true]) (by simp [results, Tryz.results143, go_sem, m0, m1, m2, m3]) rfl ?_
    exact ⟨rfl, C⟩
  · have k0 := bx2.cell 0
    have k1 := bx2.cell 1
    have k2 := bx2.cell 2
    have k3 := bx2.cell 3
    have j0 := by2.cell 0
    have j1 := by2.cell 1
    have j2 := by2.cell 2
    have j3 := by2.cell 3
    simp only [List.getElem?_toArray, List.getElem?_cons_zero, List.getElem?_cons_succ] at k0 k1 k2 k3 j0 j1 j2 j3
    have cL := HL.out (u2.alloc (.cells #[.int .i64 yb, .int .i64 ye, .int .i64 yq, .int .i64 yt] 141))
    unfold supV at cL
    dsimp only at cL
    clear HL
    go_wp2_with fail
    refine Calls.mono cL ?_
    rintro r u3 ⟨rfl, b3⟩
    have B5 := B4.trans (b3.mono B4.size)
    have bz3 := bz2.below b3
    have bx3 := bx2.below b3
    have by3 := by2.below b3
    clear k0 k1 k2 k3 j0 j1 j2 j3 cL bz2 bx2 by2 B4 B3 b3
    have f0 := bz3.frozen 0
    have n0 := bz3.cell 0
    have f1 := bz3.frozen 1
    have n1 := bz3.cell 1
    have f2 := bz3.frozen 2
    have n2 := bz3.cell 2
    have f3 := bz3.frozen 3
    have n3 := bz3.cell 3
    simp only [List.getElem?_toArray, List.getElem?_cons_zero, List.getElem?_cons_succ] at n0 n1 n2 n3
    have k0 := bx3.cell 0
    have k1 := bx3.cell 1
    have k2 := bx3.cell 2
    have k3 := bx3.cell 3
    simp only [List.getElem?_toArray, List.getElem?_cons_zero, List.getElem?_cons_succ] at k0 k1 k2 k3
    go_wp2_with fail
    have Z := ((((bz3.store 0 (.int .i64 xb)).store 1 (.int .i64 xe)).store 2 (.int .i64 xq)).store 3 (.int .i64 xt))
    have C := ((((B5.setCell (p := ⟨w.heap.size, 0, none⟩) (Nat.le_refl _) (.int .i64 xb)).setCell (p := ⟨w.heap.size, 1, none⟩) (Nat.le_refl _) (.int .i64 xe)).setCell (p := ⟨w.heap.size, 2, none⟩) (Nat.le_refl _) (.int .i64 xq)).setCell (p := ⟨w.heap.size, 3, none⟩) (Nat.le_refl _) (.int .i64 xt))
    generalize ((((u3.setCell ⟨w.heap.size, 0, none⟩ (.int .i64 xb)).setCell ⟨w.heap.size, 1, none⟩ (.int .i64 xe)).setCell ⟨w.heap.size, 2, none⟩ (.int .i64 xq)).setCell ⟨w.heap.size, 3, none⟩ (.int .i64 xt)) = W9 at Z C ⊢
    clear n0 n1 n2 n3
    have m0 := Z.cell 0
    have m1 := Z.cell 1
    have m2 := Z.cell 2
    have m3 := Z.cell 3
    simp at m0 m1 m2 m3
    refine bodyPost_ret (v := .tuple #[.agg #[.int .i64 xb, .int .i64 xe, .int .i64 xq, .int .i64 xt], .int .i64 0, .bool true]) (by simp [results, Tryz.results143, go_sem, m0, m1, m2, m3]) rfl ?_
    exact ⟨rfl, C⟩

theorem choose_at (n1 c1 n2 c2 : Nat) (a1 a2 : Option Addr) (xs ys : List UInt8) (w : World) (hn1 : xs.length = n1) (hc1 : n1 ≤ c1) (hm1 : c1 ≤ 9223372036854775807) (hr1 : Rd w a1 xs) (hn2 : ys.length = n2) (hc2 : n2 ≤ c2) (hm2 : c2 ≤ 9223372036854775807) (hr2 : Rd w a2 ys) :
    Calls Tryz.prog 143 #[.slice a1 n1 c1, .slice a2 n2 c2] w fun r w' => r = .returned (.tuple #[supV (choose (getSuper xs) (getSuper ys)).1, .int .i64 (choose (getSuper xs) (getSuper ys)).2.1, .bool (choose (getSuper xs) (getSuper ys)).2.2]) ∧ Below w.heap.size w w' := by
  refine choose_in _ _ (erG (getSuper xs).isSome) (erG (getSuper ys).isSome) ((getSuper xs).getD zeroS) ((getSuper ys).getD zeroS) _ _ _ _ w (fun u bu => Su.getSuper_at n1 c1 a1 xs u hn1 hc1 hm1 (hr1.below bu (Nat.le_refl _))) (fun u bu => Su.getSuper_at n2 c2 a2 ys u hn2 hc2 hm2 (hr2.below bu (Nat.le_refl _))) rfl ?_
  rcases getSuper xs with _ | x <;> rcases getSuper ys with _ | y
  · exact .inl ⟨rfl, rfl, rfl, rfl, rfl⟩
  · exact .inr (.inl ⟨rfl, rfl, rfl, rfl, rfl⟩)
  · exact .inr (.inr (.inl ⟨rfl, rfl, rfl, rfl, rfl⟩))
  · show _ ∨ _ ∨ _ ∨ (_ ∧ _ ∧ later y x = true ∧ _) ∨ (_ ∧ _ ∧ later y x = false ∧ _)
    cases h : later y x
    · exact .inr (.inr (.inr (.inr ⟨rfl, rfl, rfl, by simp [choose, h], by simp [choose, h], by simp [choose, h]⟩)))
    · exact .inr (.inr (.inr (.inl ⟨rfl, rfl, rfl, by simp [choose, h], by simp [choose, h], by simp [choose, h]⟩)))
end Go.Proofs.YtnldkpckojhbhaaGreat.H

/-
  Supers: equal or not; the law's superblocks; literals of images and groups.
-/
namespace Go.Proofs.YtnldkpckojhbhaaGreat.H
open Go.RowKit
open Go.Proofs.YtnldkpckojhbhaaGreat.Su (wi Sup supV zeroS getSuper rightS superB)
open Go.Proofs.YtnldkpckojhbhaaGreat.Dk (Box)

theorem fieldsS : Tryz.prog.underlying 141 = some (.struct (Tryz.prog.fieldsOf 141)) := by kernel_rfl
theorem heldS : Tryz.prog.stoodInHeld 141 = false := by kernel_rfl
theorem eqS (u : World) (a b c d a' b' c' d' : Int) : (Op.equalIn 10000 141 (.agg #[.int .i64 a, .int .i64 b, .int .i64 c, .int .i64 d]) (.agg #[.int .i64 a', .int .i64 b', .int .i64 c', .int .i64 d'])).run Tryz.prog u = .ok (decide (a = a' ∧ b = b' ∧ c = c' ∧ d = d')) u := by
  rw [run_equalIn_agg u 9999 141 _ _ fieldsS heldS]
  simp only [Program.fieldsOf, Tryz.underlying141]
  simp [go_sem, Op.eqFields, Tryz.underlying3]
  by_cases h1 : a = a' <;> simp [h1]
  by_cases h2 : b = b' <;> simp [h2]
  by_cases h3 : c = c' <;> simp [h3]
  by_cases h4 : d = d' <;> simp [h4]
theorem eqlS (u : World) (a b c d a' b' c' d' : Int) : (binOp .eql 141 (.agg #[.int .i64 a, .int .i64 b, .int .i64 c, .int .i64 d]) (.agg #[.int .i64 a', .int .i64 b', .int .i64 c', .int .i64 d'])).run Tryz.prog u = .ok (.bool (decide (a = a' ∧ b = b' ∧ c = c' ∧ d = d'))) u := by
  have h := eqS u a b c d a' b' c' d'
  simp only [binOp]
  simp [Op.equal, Op.maxDepth, h]
theorem neqS (u : World) (a b c d a' b' c' d' : Int) : (binOp .neq 141 (.agg #[.int .i64 a, .int .i64 b, .int .i64 c, .int .i64 d]) (.agg #[.int .i64 a', .int .i64 b', .int .i64 c', .int .i64 d'])).run Tryz.prog u = .ok (.bool (!decide (a = a' ∧ b = b' ∧ c = c' ∧ d = d'))) u := by
  have h := eqS u a b c d a' b' c' d'
  simp only [binOp]
  simp [Op.equal, Op.maxDepth, h]

/-- the law's superblock -/
def sB (e q : Nat) : List UInt8 := superB 64 e q 0
theorem sB_len (e q : Nat) : (sB e q).length = 4096 := Su.superB_length 64 e q 0
theorem sB_put (e q : Nat) (h : rightS 64 (e : Int) (q : Int) 0 = true) : Su.putSuper 64 (e : Int) (q : Int) 0 = some (sB e q) := by
  unfold Su.putSuper
  rw [if_pos h]
  rfl
theorem sB_get (e q : Nat) (h : rightS 64 (e : Int) (q : Int) 0 = true) : getSuper (sB e q) = some ⟨64, e, q, 0⟩ := Su.getSuper_put 64 e q 0 h
theorem cellsI_one {w : World} {g : Nat} {b : Int} {a : Option Addr} {n c : Nat} (h : Box w g #[.int .i64 b, .slice a n c] 89) : CellsI w (some ⟨g, 0, none⟩) [(b, a, n, c)] := fun _ => by
  refine ⟨g, 0, rfl, fun j hj => ?_⟩
  have hj0 : j = 0 := by simp at hj; omega
  subst hj0
  exact ⟨h.cell 0, h.cell 1⟩
theorem cellsI_two {w : World} {g : Nat} {b b' : Int} {a a' : Option Addr} {n c n' c' : Nat} (h : Box w g #[.int .i64 b, .slice a n c, .int .i64 b', .slice a' n' c'] 89) : CellsI w (some ⟨g, 0, none⟩) [(b, a, n, c), (b', a', n', c')] := fun _ => by
  refine ⟨g, 0, rfl, fun j hj => ?_⟩
  have hj0 : j = 0 ∨ j = 1 := by simp at hj; omega
  rcases hj0 with rfl | rfl
  · exact ⟨h.cell 0, h.cell 1⟩
  · exact ⟨h.cell 2, h.cell 3⟩
theorem cellsG_one {w : World} {g : Nat} {e q : Int} {a : Option Addr} {n c : Nat} {is : List Im} (h : Box w g #[.int .i64 e, .int .i64 q, .slice a n c] 203) (hn : is.length = n) (hm : n ≤ 1000000000000) (hi : CellsI w a is) : CellsG w (some ⟨g, 0, none⟩) [⟨e, q, a, c, is⟩] := fun _ => by
  refine ⟨g, 0, rfl, fun j hj => ?_⟩
  have hj0 : j = 0 := by simp at hj; omega
  subst hj0 hn
  exact ⟨h.cell 0, h.cell 1, h.cell 2, hi, hm⟩
theorem cellsG_two {w : World} {g : Nat} {e q e' q' : Int} {a a' : Option Addr} {n c n' c' : Nat} {is is' : List Im} (h : Box w g #[.int .i64 e, .int .i64 q, .slice a n c, .int .i64 e', .int .i64 q', .slice a' n' c'] 203) (hn : is.length = n) (hm : n ≤ 1000000000000) (hi : CellsI w a is) (hn' : is'.length = n') (hm' : n' ≤ 1000000000000) (hi' : CellsI w a' is') : CellsG w (some ⟨g, 0, none⟩) [⟨e, q, a, c, is⟩, ⟨e', q', a', c', is'⟩] := fun _ => by
  refine ⟨g, 0, rfl, fun j hj => ?_⟩
  have hj0 : j = 0 ∨ j = 1 := by simp at hj; omega
  subst hn hn'
  rcases hj0 with rfl | rfl
  · exact ⟨h.cell 0, h.cell 1, h.cell 2, hi, hm⟩
  · exact ⟨h.cell 3, h.cell 4, h.cell 5, hi', hm'⟩
theorem imgs_two {w : World} {g g1 g2 : Nat} {b b' : Int} {xs ys : List UInt8} (h : Box w g #[.int .i64 b, .slice (some ⟨g1, 0, none⟩) 4096 4096, .int .i64 b', .slice (some ⟨g2, 0, none⟩) 4096 4096] 89) (h1 : Rc.Own w g1 xs) (h2 : Rc.Own w g2 ys) (hx : xs.length = 4096) (hy : ys.length = 4096) : Rc.Imgs w (some ⟨g, 0, none⟩) [(b, xs), (b', ys)] := fun _ => by
  refine ⟨g, 0, rfl, fun j hj => ?_⟩
  have hj0 : j = 0 ∨ j = 1 := by simp at hj; omega
  rcases hj0 with rfl | rfl
  · refine ⟨h.cell 0, _, 4096, ?_, by show xs.length ≤ _; omega, by omega, fun h => (by cases h), h1.rd⟩
    show w.cell? ⟨g, 1, none⟩ = some (.slice _ xs.length _)
    rw [hx]
    exact h.cell 1
  · refine ⟨h.cell 2, _, 4096, ?_, by show ys.length ≤ _; omega, by omega, fun h => (by cases h), h2.rd⟩
    show w.cell? ⟨g, 3, none⟩ = some (.slice _ ys.length _)
    rw [hy]
    exact h.cell 3
end Go.Proofs.YtnldkpckojhbhaaGreat.H

/-
  A disk of 64 blocks that nothing stops, told by its blocks: writes, flushes, images laid, a crash that keeps nothing.
-/
namespace Go.Proofs.YtnldkpckojhbhaaGreat.V
open Go.Proofs.YtnldkpckojhbhaaGreat.Dk (DS nought blk)
open Go.Proofs.YtnldkpckojhbhaaGreat.H (layD doD)

/-- what block k is is f k; at most n writes were done -/
structure Mq (D : DS) (f : Nat → List UInt8) (n : Nat) : Prop where
  nb : D.nb = 64
  calm : J.Calm D
  ok : D.Ok
  cnt : D.n ≤ n
  at_ : ∀ k, k < 64 → D.stand k = f k
def upd (f : Nat → List UInt8) (k : Nat) (x : List UInt8) : Nat → List UInt8 := fun i => if i = k then x else f i
theorem Mq.write {D : DS} {f : Nat → List UInt8} {n : Nat} (h : Mq D f n) (k : Nat) (hk : k < 64) (x : List UInt8) (hx : x.length = 4096) : D.writeE (k : Int) x = 0 ∧ Mq (D.write (k : Int) x) (upd f k x) (n + 1) ∧ (D.write (k : Int) x).uf = D.uf ++ [(k, x)] ∧ (D.write (k : Int) x).dur = D.dur := by
  have hh : D.has (k : Int) = true := by unfold DS.has; rw [h.nb]; simp; omega
  have e : D.write (k : Int) x = { D with uf := D.uf ++ [(k, x)], n := D.n + 1 } := by
    unfold DS.write
    rw [hh, decide_eq_true hx, Bool.and_self, if_pos rfl, if_pos h.calm.operE, h.calm.oper]
    simp
  refine ⟨by unfold DS.writeE; rw [hh, if_pos rfl, if_pos hx]; exact h.calm.operE, ?_, by rw [e], by rw [e]⟩
  rw [e]
  refine ⟨h.nb, h.calm, ⟨h.ok.len, h.ok.lo, h.ok.hi, fun p hp => ?_, h.ok.arm, h.ok.fail⟩, by have := h.cnt; show D.n + 1 ≤ _; omega, fun i hi => ?_⟩
  · rcases List.mem_append.1 hp with hp | hp
    · exact h.ok.each p hp
    · simp at hp
      subst hp
      exact ⟨by show k < D.nb; rw [h.nb]; exact hk, hx⟩
  · rw [J.stand_snoc, h.at_ i hi]
    unfold upd
    by_cases hik : i = k
    · subst hik; simp
    · rw [if_neg hik, if_neg (fun e => hik e.symm)]
theorem Mq.flush {D : DS} {f : Nat → List UInt8} {n : Nat} (h : Mq D f n) : D.operE = 0 ∧ Mq D.flush f n ∧ D.flush.uf = [] := by
  have e := h.calm.flush.1
  have hl : D.image.length = D.nb * 4096 := (Dk.blk_carryTo D.uf D.dur D.nb 0 (by rw [h.nb]; decide) h.ok.len h.ok.each D.uf.length (Nat.le_refl _)).1
  refine ⟨h.calm.operE, ⟨by rw [e]; exact h.nb, h.calm.flush.2, by rw [e]; exact ⟨hl, h.ok.lo, h.ok.hi, fun p hp => (by cases hp), h.ok.arm, h.ok.fail⟩, by rw [e]; exact h.cnt, fun k hk => ?_⟩, by rw [e]⟩
  rw [J.stand_flush h.calm h.ok k (by rw [h.nb]; exact hk)]
  exact h.at_ k hk
/-- so many images, one behind the other -/
def updL (f : Nat → List UInt8) (L : List (Int × List UInt8)) : Nat → List UInt8 := L.foldl (fun f p => upd f p.1.toNat p.2) f
theorem Mq.lay : ∀ (L : List (Int × List UInt8)) {D : DS} {f : Nat → List UInt8} {n : Nat}, Mq D f n → (∀ p ∈ L, (0 ≤ p.1 ∧ p.1 < 64) ∧ p.2.length = 4096) → (layD L D).2 = 0 ∧ Mq (layD L D).1 (updL f L) (n + L.length) ∧ (layD L D).1.uf = []
  | [], D, f, n, h, _ => by
    obtain ⟨h1, h2, h3⟩ := h.flush
    exact ⟨h1, h2, h3⟩
  | p :: r, D, f, n, h, hp => by
    obtain ⟨⟨p0, p1⟩, pl⟩ := hp p (List.mem_cons_self ..)
    obtain ⟨k, hk⟩ : ∃ k : Nat, p.1 = k := ⟨p.1.toNat, by omega⟩
    obtain ⟨h1, h2, _⟩ := h.write k (by omega) p.2 pl
    obtain ⟨i1, i2, i3⟩ := Mq.lay r h2 (fun q hq => hp q (List.mem_cons_of_mem _ hq))
    unfold layD
    rw [hk, if_pos h1]
    refine ⟨i1, ?_, i3⟩
    have e : updL f (p :: r) = updL (upd f k p.2) r := by simp [updL, hk]
    rw [e, List.length_cons, show n + (r.length + 1) = n + 1 + r.length by omega]
    exact i2
theorem Mq.do_ {D : DS} {f : Nat → List UInt8} {n : Nat} (h : Mq D f n) (L : List (Int × List UInt8)) (hp : ∀ p ∈ L, (0 ≤ p.1 ∧ p.1 < 64) ∧ p.2.length = 4096) (s : Nat) (hs : s < 64) (sb : List UInt8) (hsb : sb.length = 4096) :
    (doD L (s : Int) sb D).2 = 0 ∧ Mq (doD L (s : Int) sb D).1 (upd (updL f L) s sb) (n + L.length + 1) ∧ (doD L (s : Int) sb D).1.uf = [] := by
  obtain ⟨h1, h2, _⟩ := Mq.lay L h hp
  obtain ⟨i1, i2, i3⟩ := Mq.lay [((s : Int), sb)] h2 (fun q hq => by
    simp at hq
    subst hq
    exact ⟨⟨by show (0 : Int) ≤ s; omega, by show (s : Int) < 64; omega⟩, hsb⟩)
  unfold doD
  rw [if_pos h1]
  exact ⟨i1, by simpa [updL] using i2, i3⟩
/-- a crash that keeps nothing -/
theorem crash_none (D : DS) (m : Nat) : D.crash [] (-1) m = { D with uf := [], gone := false, arm := ⟨false, 0⟩, fail := ⟨false, 0⟩ } := by
  have e : ∀ k, Dk.crashTo [] (-1) m D.uf D.dur k = D.dur := fun k => by
    induction k with
    | zero => rfl
    | succ k ih =>
      unfold Dk.crashTo
      cases D.uf[k]? with
      | none => exact ih
      | some w =>
        dsimp only
        rw [if_neg (by omega), if_neg (by simp [Dk.keeps])]
        exact ih
  unfold DS.crash
  rw [e]
theorem Mq.crash {D D' : DS} {f : Nat → List UInt8} {n n' : Nat} (h : Mq D f n) (hu : D.uf = []) (hn : D'.n ≤ n') (hd : D'.dur = D.dur) (hb : D'.nb = D.nb) (m : Nat) : Mq (D'.crash [] (-1) m) f n' ∧ (D'.crash [] (-1) m).uf = [] := by
  rw [crash_none]
  refine ⟨⟨hb.trans h.nb, ⟨rfl, rfl, rfl⟩, ⟨by show D'.dur.length = D'.nb * 4096; rw [hd, hb]; exact h.ok.len, by show 1 ≤ D'.nb; rw [hb]; exact h.ok.lo, by show D'.nb ≤ 512; rw [hb]; exact h.ok.hi, fun p hp => (by cases hp), by show (0 : Nat) < 9223372036854775808; decide, by show (0 : Nat) < 9223372036854775808; decide⟩, hn, fun k hk => ?_⟩, rfl⟩
  rw [← h.at_ k hk]
  unfold DS.stand
  rw [hu, hd]
/-- a new disk -/
theorem Mq.new (N : Nat) (hN : N = 64 * 4096) : Mq (DS.new 64 (nought N)) (fun _ => nought 4096) 0 := by
  refine ⟨rfl, J.calm_new _ _, ⟨by show (nought N).length = 64 * 4096; rw [Dk.nought_length, hN], by show 1 ≤ 64; decide, by show 64 ≤ 512; decide, fun p hp => (by cases hp), by show (0 : Nat) < 9223372036854775808; decide, by show (0 : Nat) < 9223372036854775808; decide⟩, Nat.le_refl _, fun k hk => ?_⟩
  show blk (nought N) k = nought 4096
  rw [S.blk_nought N k (by rw [hN]; omega)]
  rfl
/-- the disk behind a Format of a new one -/
def f1 : Nat → List UInt8 := upd (fun _ => nought 4096) 0 (Su.superB 64 1 1 0)
theorem updL_fmt : ∀ n, updL (fun _ => nought 4096) (fmtL n) = fun _ => nought 4096
  | 0 => rfl
  | n + 1 => by
    have := updL_fmt n
    unfold updL at this ⊢
    rw [fmtL, List.foldl_append, this]
    funext i
    show upd (fun _ => nought 4096) _ (nought 4096) i = nought 4096
    unfold upd
    split <;> rfl
theorem fmt_new (N : Nat) (hN : N = 64 * 4096) : (fmtD (DS.new 64 (nought N))).2 = 0 ∧ Mq (fmtD (DS.new 64 (nought N))).1 f1 23 ∧ (fmtD (DS.new 64 (nought N))).1.uf = [] := by
  have h := (Mq.new N hN).do_ (fmtL 22) (fun p hp => by
    obtain ⟨k, hk, rfl⟩ := List.getElem_of_mem hp
    rw [fmtL_len] at hk
    rw [fmtL_get]
    exact ⟨⟨by show (0 : Int) ≤ (k : Int) + 1; omega, by show (k : Int) + 1 < 64; omega⟩, Dk.nought_length 4096⟩) 0 (by decide) (Su.superB 64 1 1 0) (Su.superB_length 64 1 1 0)
  rw [updL_fmt, fmtL_len] at h
  have e : ∀ D : DS, fmtD D = doD (fmtL 22) ((0 : Nat) : Int) (Su.superB 64 1 1 0) D := fun D => rfl
  rw [e]
  refine ⟨h.1, ?_, h.2.2⟩
  unfold f1
  exact h.2.1
/-- behind a Mount of it, and behind one more -/
def f2 : Nat → List UInt8 := upd f1 1 (Su.superB 64 2 1 0)
def f3 : Nat → List UInt8 := upd f2 0 (Su.superB 64 3 1 0)
theorem get_zero : Su.getSuper (nought 4096) = none := by
  cases h : Su.getSuper (nought 4096) with
  | none => rfl
  | some s =>
    have h2 := (Su.getSuper_some h).2
    rw [Su.superB_eq] at h2
    have h3 := congrArg (fun l => l[0]?) h2
    have h4 : (nought 4096)[0]? = some 0 := by rw [nought, List.getElem?_replicate, if_pos (by decide)]
    rw [h4] at h3
    have h5 : ∀ X : List UInt8, (Su.letters ++ X)[0]? = some 76 := fun X => rfl
    rw [h5] at h3
    cases h3
theorem ch1 : H.choose (Su.getSuper (f1 0)) (Su.getSuper (f1 1)) = (⟨64, 1, 1, 0⟩, 0, true) := by
  have e0 : f1 0 = Su.superB 64 1 1 0 := rfl
  have e1 : f1 1 = nought 4096 := rfl
  have e : Su.getSuper (Su.superB 64 1 1 0) = some ⟨64, 1, 1, 0⟩ := Su.getSuper_put 64 1 1 0 (by decide)
  rw [e0, e1, get_zero, e]
  rfl
theorem ch2 : H.choose (Su.getSuper (f2 0)) (Su.getSuper (f2 1)) = (⟨64, 2, 1, 0⟩, 1, true) := by
  have e0 : f2 0 = Su.superB 64 1 1 0 := rfl
  have e1 : f2 1 = Su.superB 64 2 1 0 := rfl
  have a : Su.getSuper (Su.superB 64 1 1 0) = some ⟨64, 1, 1, 0⟩ := Su.getSuper_put 64 1 1 0 (by decide)
  have b : Su.getSuper (Su.superB 64 2 1 0) = some ⟨64, 2, 1, 0⟩ := Su.getSuper_put 64 2 1 0 (by decide)
  rw [e0, e1, a, b]
  rfl
/-- a ring of noughts has no groups -/
theorem run_zero {D : DS} {f : Nat → List UInt8} {n t E s : Nat} (h : Mq D f n) (hf : ∀ k, 2 ≤ k → k < 18 → f k = nought 4096) {xs : List S.Gx} (hr : S.Run D t E 0 s xs) : xs = [] := by
  cases xs with
  | nil => rfl
  | cons x r =>
    refine absurd hr.1.2.2.1 (fun g => ?_)
    have hs := S.gok_s g
    have h1 := S.gok_marks g 0 (by omega) 0
    have hz : S.rg D t 0 = List.replicate 4096 0 := by
      unfold S.rg
      rw [h.at_ _ (by omega), hf _ (by omega) (by omega)]
      rfl
    rw [Nat.add_zero, hz, S.sec_zero] at h1
    exact Rc.mark_ne (by omega) (by omega) (by omega) h1.symm
end Go.Proofs.YtnldkpckojhbhaaGreat.V

/-
  What Mount reads: the superblocks; may this super be mounted?
-/
namespace Go.Proofs.YtnldkpckojhbhaaGreat.V
open Go.RowKit
open Go.Proofs.YtnldkpckojhbhaaGreat.Dk (Box DS IsDisk Upd Rd RowB)

theorem rowB_cap {w : World} {g c : Nat} {ys : List UInt8} (h : RowB w g c ys) : ys.length ≤ c ∧ c ≤ 9223372036854775807 := by
  obtain ⟨_, _, h1, h2, _⟩ := h
  exact ⟨h1, by unfold maxLen at h2; omega⟩
theorem all6 {w : World} {g : Nat} {v0 v1 v2 v3 v4 v5 : Value} {t : TypeId} (h : Box w g #[v0, v1, v2, v3, v4, v5] t) : w.cell? ⟨g, 0, none⟩ = some v0 ∧ w.cell? ⟨g, 1, none⟩ = some v1 ∧ w.cell? ⟨g, 2, none⟩ = some v2 ∧ w.cell? ⟨g, 3, none⟩ = some v3 ∧ w.cell? ⟨g, 4, none⟩ = some v4 ∧ w.cell? ⟨g, 5, none⟩ = some v5 :=
  ⟨h.cell 0, h.cell 1, h.cell 2, h.cell 3, h.cell 4, h.cell 5⟩
theorem all7 {w : World} {g : Nat} {v0 v1 v2 v3 v4 v5 v6 : Value} {t : TypeId} (h : Box w g #[v0, v1, v2, v3, v4, v5, v6] t) : w.cell? ⟨g, 0, none⟩ = some v0 ∧ w.cell? ⟨g, 1, none⟩ = some v1 ∧ w.cell? ⟨g, 2, none⟩ = some v2 ∧ w.cell? ⟨g, 3, none⟩ = some v3 ∧ w.cell? ⟨g, 4, none⟩ = some v4 ∧ w.cell? ⟨g, 5, none⟩ = some v5 ∧ w.cell? ⟨g, 6, none⟩ = some v6 :=
  ⟨h.cell 0, h.cell 1, h.cell 2, h.cell 3, h.cell 4, h.cell 5, h.cell 6⟩
theorem all4 {w : World} {g : Nat} {v0 v1 v2 v3 : Value} {t : TypeId} (h : Box w g #[v0, v1, v2, v3] t) : w.cell? ⟨g, 0, none⟩ = some v0 ∧ w.cell? ⟨g, 1, none⟩ = some v1 ∧ w.cell? ⟨g, 2, none⟩ = some v2 ∧ w.cell? ⟨g, 3, none⟩ = some v3 :=
  ⟨h.cell 0, h.cell 1, h.cell 2, h.cell 3⟩
theorem fr6 {w : World} {g : Nat} {cs : Array Value} {t : TypeId} (h : Box w g cs t) : w.frozen? ⟨g, 0, none⟩ = false ∧ w.frozen? ⟨g, 1, none⟩ = false ∧ w.frozen? ⟨g, 2, none⟩ = false ∧ w.frozen? ⟨g, 3, none⟩ = false ∧ w.frozen? ⟨g, 4, none⟩ = false ∧ w.frozen? ⟨g, 5, none⟩ = false :=
  ⟨h.frozen 0, h.frozen 1, h.frozen 2, h.frozen 3, h.frozen 4, h.frozen 5⟩
theorem supers_at {g : Nat} {w : World} {D : DS} {F : Nat → Prop} (hd : IsDisk w g D F) (hnb : D.nb = 64) (hg : D.gone = false) (hlim : D.uf.length ≤ 1000000) :
    Calls Tryz.prog 142 #[.pointer (some ⟨g, 0, none⟩)] w fun r w' => ∃ ga ca gb cb, r = .returned (.tuple #[.slice (some ⟨ga, 0, none⟩) 4096 ca, .slice (some ⟨gb, 0, none⟩) 4096 cb, .int .i64 0]) ∧ RowB w' ga ca (D.stand 0) ∧ RowB w' gb cb (D.stand 1) ∧ Below w.heap.size w w' := by
  have c0 := Dk.read_at hd 0 (by omega) hg hlim
  have HD : Hid (IsDisk w g D F) := hd
  clear hd
  go_enter Tryz.func142, Tryz.ntmps142
  go_wp2_with fail
  refine Calls.mono c0 ?_
  rintro r u1 ⟨ga, ca, rfl, _, r1, b1⟩
  have c1 := Dk.read_at (HD.out.below b1) 1 (by omega) hg hlim
  clear c0
  go_wp2_with fail
  refine Calls.mono c1 ?_
  rintro r u2 ⟨gb, cb, rfl, _, r2, b2⟩
  have B := b1.trans (b2.mono b1.size)
  have r3 := r1.same (b2.block ga r1.lt)
  clear c1
  go_wp2_with fail
  exact bodyPost_ret (v := .tuple #[.slice (some ⟨ga, 0, none⟩) 4096 ca, .slice (some ⟨gb, 0, none⟩) 4096 cb, .int .i64 0]) (by simp [results, Tryz.results142, go_sem]) rfl ⟨ga, ca, gb, cb, rfl, r3, r2, B⟩
theorem mayMount_at (w : World) (e q t : Int) (he : e < 8388608) (ht : t < 16) :
    Calls Tryz.prog 159 #[.agg #[.int .i64 64, .int .i64 2, .int .i64 16, .int .i64 18, .int .i64 19, .int .i64 4, .int .i64 23], .agg #[.int .i64 64, .int .i64 e, .int .i64 q, .int .i64 t]] w fun r w' => r = .returned (.bool true) ∧ Below w.heap.size w w' := by
  have B := ((Below.refl w.heap.size w).alloc (Nat.le_refl _) (.cells #[.int .i64 64, .int .i64 2, .int .i64 16, .int .i64 18, .int .i64 19, .int .i64 4, .int .i64 23] 57)).alloc (by simp) (.cells #[.int .i64 64, .int .i64 e, .int .i64 q, .int .i64 t] 141)
  go_enter Tryz.func159, Tryz.ntmps159
  go_wp2_with fail
  go_ret
  exact ⟨rfl, B⟩
end Go.Proofs.YtnldkpckojhbhaaGreat.V

/-
  find: what Mount is to do, given what the ring's groups and their homes are.
-/
namespace Go.Proofs.YtnldkpckojhbhaaGreat.V
open Go.RowKit
open Go.Proofs.YtnldkpckojhbhaaGreat.Dk (Box DS IsDisk Upd Rd RowB)
open Go.Proofs.YtnldkpckojhbhaaGreat.Su (getSuper supV)


set_option maxRecDepth 100000 in
set_option maxHeartbeats 4000000 in
theorem find_in {g : Nat} {w : World} {D : DS} {F : Nat → Prop} (hd : IsDisk w g D F) (hnb : D.nb = 64) (hg : D.gone = false) (hlim : D.uf.length ≤ 1000000)
    (E S t k pl : Int) (hch : H.choose (getSuper (D.stand 0)) (getSuper (D.stand 1)) = (⟨64, E, S, t⟩, k, true)) (hE : 1 ≤ E ∧ E < 8388608) (hS : 1 ≤ S) (ht : 0 ≤ t ∧ t < 16) (hk : k = 0 ∨ k = 1) (N : Nat) (hN : S + N ≤ 549755813888) (hN2 : N ≤ 100) (hs0 : (D.stand 0).length = 4096) (hs1 : (D.stand 1).length = 4096)
    (PG : Option Addr → Nat → World → Prop) (PI : Option Addr → Nat → Nat → World → Prop)
    (cG : ∀ u, Below w.heap.size w u → Calls Tryz.prog 160 #[.pointer (some ⟨g, 0, none⟩), .agg #[.int .i64 64, .int .i64 2, .int .i64 16, .int .i64 18, .int .i64 19, .int .i64 4, .int .i64 23], .agg #[.int .i64 64, .int .i64 E, .int .i64 S, .int .i64 t]] u fun r w' => ∃ ga gc, r = .returned (.tuple #[.slice ga N gc, .int .i64 pl, .int .i64 0]) ∧ PG ga gc w' ∧ Below u.heap.size u w')
    (cH : ∀ u ga gc, PG ga gc u → w.heap.size + 2 ≤ u.heap.size → Calls Tryz.prog 161 #[.agg #[.int .i64 64, .int .i64 2, .int .i64 16, .int .i64 18, .int .i64 19, .int .i64 4, .int .i64 23], .slice ga N gc] u fun r w' => ∃ a n c, r = .returned (.tuple #[.slice a n c, .int .i64 0]) ∧ PI a n c w' ∧ Below u.heap.size u w')
    (hPI : ∀ a n c u u', PI a n c u → (∀ i, i < u.heap.size → i ≠ w.heap.size + 1 → u'.heap[i]? = u.heap[i]?) → u.heap.size ≤ u'.heap.size → PI a n c u') :
    Calls Tryz.prog 90 #[.pointer (some ⟨g, 0, none⟩), .agg #[.int .i64 64, .int .i64 2, .int .i64 16, .int .i64 18, .int .i64 19, .int .i64 4, .int .i64 23]] w fun r w' => ∃ a n c, r = .returned (.tuple #[.agg #[.slice a n c, .int .i64 64, .int .i64 (E + 1), .int .i64 (S + N), .int .i64 pl, .int .i64 (1 - k)], .int .i64 0]) ∧ PI a n c w' ∧ Below w.heap.size w w' := by
  have HG : Hid (∀ u, Below w.heap.size w u → Calls Tryz.prog 160 #[.pointer (some ⟨g, 0, none⟩), .agg #[.int .i64 64, .int .i64 2, .int .i64 16, .int .i64 18, .int .i64 19, .int .i64 4, .int .i64 23], .agg #[.int .i64 64, .int .i64 E, .int .i64 S, .int .i64 t]] u fun r w' => ∃ ga gc, r = .returned (.tuple #[.slice ga N gc, .int .i64 pl, .int .i64 0]) ∧ PG ga gc w' ∧ Below u.heap.size u w') := cG
  have HH : Hid (∀ u ga gc, PG ga gc u → w.heap.size + 2 ≤ u.heap.size → Calls Tryz.prog 161 #[.agg #[.int .i64 64, .int .i64 2, .int .i64 16, .int .i64 18, .int .i64 19, .int .i64 4, .int .i64 23], .slice ga N gc] u fun r w' => ∃ a n c, r = .returned (.tuple #[.slice a n c, .int .i64 0]) ∧ PI a n c w' ∧ Below u.heap.size u w') := cH
  have HPI : Hid (∀ a n c u u', PI a n c u → (∀ i, i < u.heap.size → i ≠ w.heap.size + 1 → u'.heap[i]? = u.heap[i]?) → u.heap.size ≤ u'.heap.size → PI a n c u') := hPI
  have HCh : Hid (H.choose (getSuper (D.stand 0)) (getSuper (D.stand 1)) = (⟨64, E, S, t⟩, k, true)) := hch
  have HL : Hid ((D.stand 0).length = 4096 ∧ (D.stand 1).length = 4096) := ⟨hs0, hs1⟩
  have x0 := (Box.new w #[.int .i64 64, .int .i64 2, .int .i64 16, .int .i64 18, .int .i64 19, .int .i64 4, .int .i64 23] 57).alloc (.cells #[.slice none 0 0, .int .i64 0, .int .i64 0, .int .i64 0, .int .i64 0, .int .i64 0] 143)
  have y0 := Box.new (w.alloc (.cells #[.int .i64 64, .int .i64 2, .int .i64 16, .int .i64 18, .int .i64 19, .int .i64 4, .int .i64 23] 57)) #[.slice none 0 0, .int .i64 0, .int .i64 0, .int .i64 0, .int .i64 0, .int .i64 0] 143
  have sz : (w.alloc (.cells #[.int .i64 64, .int .i64 2, .int .i64 16, .int .i64 18, .int .i64 19, .int .i64 4, .int .i64 23] 57)).heap.size = w.heap.size + 1 := by simp
  rw [sz] at y0
  clear sz
  have B0 := ((Below.refl w.heap.size w).alloc (Nat.le_refl _) (.cells #[.int .i64 64, .int .i64 2, .int .i64 16, .int .i64 18, .int .i64 19, .int .i64 4, .int .i64 23] 57)).alloc (by simp) (.cells #[.slice none 0 0, .int .i64 0, .int .i64 0, .int .i64 0, .int .i64 0, .int .i64 0] 143)
  have cS := supers_at (hd.below B0) hnb hg hlim
  clear cG cH hPI hch hs0 hs1 hnb hg hlim hd
  go_enter Tryz.func90, Tryz.ntmps90
  go_wp2_with fail
  refine Calls.mono cS ?_
  rintro r u1 ⟨ga, ca, gb, cb, rfl, r1, r2, b1⟩
  obtain ⟨q1, q2⟩ := rowB_cap r1
  obtain ⟨q3, q4⟩ := rowB_cap r2
  have cC := H.choose_at 4096 ca 4096 cb (some ⟨ga, 0, none⟩) (some ⟨gb, 0, none⟩) (D.stand 0) (D.stand 1) u1 HL.out.1 (by have := HL.out.1; omega) q2 r1.rd HL.out.2 (by have := HL.out.2; omega) q4 r2.rd
  rw [HCh.out] at cC
  unfold supV at cC
  dsimp only at cC
  have B1 := B0.trans (b1.mono B0.size)
  have x1 := x0.below b1
  have y1 := y0.below b1
  clear cS b1 x0 y0 B0 r1 r2 q1 q2 q3 q4 HL HCh
  go_wp2_with fail
  refine Calls.mono cC ?_
  rintro r u2 ⟨rfl, b2⟩
  have z2 := Box.new u2 #[.int .i64 64, .int .i64 E, .int .i64 S, .int .i64 t] 141
  have bz := (Below.refl u2.heap.size u2).alloc (Nat.le_refl _) (.cells #[.int .i64 64, .int .i64 E, .int .i64 S, .int .i64 t] 141)
  have x2 := (x1.below b2).below bz
  have y2 := (y1.below b2).below bz
  have B2 := (B1.trans (b2.mono B1.size)).trans (bz.mono (B1.trans (b2.mono B1.size)).size)
  obtain ⟨u3, hu3⟩ : ∃ u, u = u2.alloc (.cells #[.int .i64 64, .int .i64 E, .int .i64 S, .int .i64 t] 141) := ⟨_, rfl⟩
  have HU3 : Hid (u3 = u2.alloc (.cells #[.int .i64 64, .int .i64 E, .int .i64 S, .int .i64 t] 141)) := hu3
  have cM := mayMount_at (u2.alloc (.cells #[.int .i64 64, .int .i64 E, .int .i64 S, .int .i64 t] 141)) E S t hE.2 ht.2
  have k0 := x2.cell 0
  have k1 := x2.cell 1
  have k2 := x2.cell 2
  have k3 := x2.cell 3
  have k4 := x2.cell 4
  have k5 := x2.cell 5
  have k6 := x2.cell 6
  have s0 := z2.cell 0
  have s1 := z2.cell 1
  have s2 := z2.cell 2
  have s3 := z2.cell 3
  simp only [List.getElem?_toArray, List.getElem?_cons_zero, List.getElem?_cons_succ] at k0 k1 k2 k3 k4 k5 k6 s0 s1 s2 s3
  rw [← hu3] at x2 y2 z2 B2
  clear cC bz b2 x1 y1 B1 hu3
  go_wp2_with fail
  refine Calls.mono cM ?_
  rintro r u4 ⟨rfl, b4⟩
  rw [← HU3.out] at b4
  have x4 := x2.below b4
  have y4 := y2.below b4
  have z4 := z2.below b4
  have B4 := B2.trans (b4.mono B2.size)
  have cG := HG.out u4 B4
  clear k0 k1 k2 k3 k4 k5 k6 s0 s1 s2 s3 cM x2 y2 z2 B2 b4 HG HU3
  have k0 := x4.cell 0
  have k1 := x4.cell 1
  have k2 := x4.cell 2
  have k3 := x4.cell 3
  have k4 := x4.cell 4
  have k5 := x4.cell 5
  have k6 := x4.cell 6
  have s0 := z4.cell 0
  have s1 := z4.cell 1
  have s2 := z4.cell 2
  have s3 := z4.cell 3
  simp only [List.getElem?_toArray, List.getElem?_cons_zero, List.getElem?_cons_succ] at k0 k1 k2 k3 k4 k5 k6 s0 s1 s2 s3
  go_wp2_with fail
  refine Calls.mono cG ?_
  rintro r u5 ⟨ha, hc, rfl, hpg, b5⟩
  have x5 := x4.below b5
  have y5 := y4.below b5
  have z5 := z4.below b5
  have B5 := B4.trans (b5.mono B4.size)
  have cH := HH.out u5 ha hc hpg y5.lt
  clear k0 k1 k2 k3 k4 k5 k6 s0 s1 s2 s3 cG x4 y4 z4 B4 b5 HH hpg
  have k0 := x5.cell 0
  have k1 := x5.cell 1
  have k2 := x5.cell 2
  have k3 := x5.cell 3
  have k4 := x5.cell 4
  have k5 := x5.cell 5
  have k6 := x5.cell 6
  have s2 := z5.cell 2
  simp only [List.getElem?_toArray, List.getElem?_cons_zero, List.getElem?_cons_succ] at k0 k1 k2 k3 k4 k5 k6 s2
  have hgt : ¬ (549755813888 : Int) < S + (N : Int) := by omega
  go_wp2_with fail
  refine Calls.mono cH ?_
  rintro r u6 ⟨ia, im, ic, rfl, hpi, b6⟩
  have y6 := y5.below b6
  have z6 := z5.below b6
  have B6 := B5.trans (b6.mono B5.size)
  have z7 := Box.new u6 #[.int .i64 64, .int .i64 (E + 1), .int .i64 (S + N), .int .i64 pl] 141
  have bz := (Below.refl u6.heap.size u6).alloc (Nat.le_refl _) (.cells #[.int .i64 64, .int .i64 (E + 1), .int .i64 (S + N), .int .i64 pl] 141)
  have y7 := y6.below bz
  have B7 := B6.trans (bz.mono B6.size)
  have hpi7 := HPI.out ia im ic _ _ hpi (fun i h1 _ => bz.block i h1) bz.size
  clear k0 k1 k2 k3 k4 k5 k6 s2 cH x5 y5 z5 B5 b6
  have s0 := z6.cell 0
  have s1 := z6.cell 1
  have t0 := z7.cell 0
  have t1 := z7.cell 1
  have t2 := z7.cell 2
  have t3 := z7.cell 3
  simp only [List.getElem?_toArray, List.getElem?_cons_zero, List.getElem?_cons_succ] at s0 s1 t0 t1 t2 t3
  obtain ⟨p0, p1, p2, p3, p4, p5⟩ := all6 y7
  obtain ⟨f0, f1, f2, f3, f4, f5⟩ := fr6 y7
  go_wp2_with fail
  refine bodyPost_ret (hd := rfl) (hR := ⟨ia, im, ic, rfl, ?_, ?_⟩) (hr := ?_)
  · simp [results, Tryz.results90, go_sem, *]
  · refine HPI.out ia im ic _ _ hpi7 (fun i h1 h2 => ?_) (by simp)
    repeat rw [heap_setCell_other _ _ _ _ (by exact h2)]
  · repeat (refine Below.setCell ?_ (by simp) _)
    exact B7
end Go.Proofs.YtnldkpckojhbhaaGreat.V

/-
  A volume's maps: blocks' bytes, counts.
-/
namespace Go.Proofs.YtnldkpckojhbhaaGreat.V
open Go.RowKit Go.Maps
open Go.Proofs.YtnldkpckojhbhaaGreat.H (MapI rV keyed3 key3)

theorem updateB {w : World} {b n : Nat} {m : Int → Option Value} (h : MapI w b n m) (hn : n < maxLen) (k : Int) (hk : (Lit.int .i64 k).wf = true) (v : Value) :
    ∃ w', (Instr.mapUpdate 78 (.map (some b)) (.int .i64 k) v).run Tryz.prog w = .ok () w' ∧ MapI w' b (n + 1) (fun j => if j = k then some v else m j) ∧ w.grownBy w' (some b) := by
  obtain ⟨D, h1, h2, h3⟩ := h
  obtain ⟨w', r, o, g⟩ := h1.update keyed3 Tryz.underlying78 hn (key3 hk) (show rV v = some (.held v, []) from rfl)
  refine ⟨w', r, ⟨_, o, fun j hj => ?_, fun j hj => ?_⟩, g⟩
  · dsimp only at hj
    by_cases e : j = k
    · rw [e]; exact hk
    · rw [if_neg e] at hj; exact h2 j hj
  · dsimp only
    by_cases e : j = k
    · subst e
      rw [if_pos rfl]
      exact ⟨has_put_same h1.isMap (show WideAt.IsKeyLit (.int .i64 j) from trivial) _, fun z => atKey_put_same h1.isMap (show WideAt.IsKeyLit (.int .i64 j) from trivial) _ z⟩
    · have ne : Lit.int .i64 j ≠ Lit.int .i64 k := fun h => e (by injection h)
      rw [if_neg e, has_put_other ne]
      exact ⟨(h3 j hj).1, fun z => (atKey_put_other ne _ z).trans ((h3 j hj).2 z)⟩
theorem updateI {w : World} {b n : Nat} {m : Int → Option Value} (h : MapI w b n m) (hn : n < maxLen) (k : Int) (hk : (Lit.int .i64 k).wf = true) (v : Value) :
    ∃ w', (Instr.mapUpdate 235 (.map (some b)) (.int .i64 k) v).run Tryz.prog w = .ok () w' ∧ MapI w' b (n + 1) (fun j => if j = k then some v else m j) ∧ w.grownBy w' (some b) := by
  obtain ⟨D, h1, h2, h3⟩ := h
  obtain ⟨w', r, o, g⟩ := h1.update keyed3 Tryz.underlying235 hn (key3 hk) (show rV v = some (.held v, []) from rfl)
  refine ⟨w', r, ⟨_, o, fun j hj => ?_, fun j hj => ?_⟩, g⟩
  · dsimp only at hj
    by_cases e : j = k
    · rw [e]; exact hk
    · rw [if_neg e] at hj; exact h2 j hj
  · dsimp only
    by_cases e : j = k
    · subst e
      rw [if_pos rfl]
      exact ⟨has_put_same h1.isMap (show WideAt.IsKeyLit (.int .i64 j) from trivial) _, fun z => atKey_put_same h1.isMap (show WideAt.IsKeyLit (.int .i64 j) from trivial) _ z⟩
    · have ne : Lit.int .i64 j ≠ Lit.int .i64 k := fun h => e (by injection h)
      rw [if_neg e, has_put_other ne]
      exact ⟨(h3 j hj).1, fun z => (atKey_put_other ne _ z).trans ((h3 j hj).2 z)⟩
/-- 'data, there := m[k]' -/
theorem lookB {w : World} {b n : Nat} {m : Int → Option Value} (h : MapI w b n m) (k : Int) (hk : (Lit.int .i64 k).wf = true) :
    (Instr.lookup 78 (.map (some b)) (.int .i64 k) true).run Tryz.prog w = .ok (.tuple #[(m k).getD (.slice none 0 0), .bool (m k).isSome]) w := by
  obtain ⟨D, h1, h2, h3⟩ := h
  obtain ⟨v, ps, r, e⟩ := h1.look_ok keyed3 Tryz.underlying78 (Tryz.zeroValue37 w) (show rV _ = some (.held _, []) from rfl) (key3 hk)
  rw [(h3 k hk).2] at e
  rw [r, (h3 k hk).1]
  cases hm : m k with
  | none =>
    rw [hm] at e
    simp [rV] at e
    rw [e.1]
    rfl
  | some x =>
    rw [hm] at e
    simp [rV] at e
    rw [e.1]
    rfl
/-- 'm[k]', of one that is not there -/
theorem lookI {w : World} {b n : Nat} {m : Int → Option Value} (h : MapI w b n m) (k : Int) (hk : (Lit.int .i64 k).wf = true) (hm : m k = none) :
    (Instr.lookup 235 (.map (some b)) (.int .i64 k) false).run Tryz.prog w = .ok (.int .i64 0) w := by
  obtain ⟨D, h1, h2, h3⟩ := h
  obtain ⟨v, ps, r, e⟩ := h1.lookup keyed3 Tryz.underlying235 (Tryz.zeroValue3 w) (show rV _ = some (.held _, []) from rfl) (key3 hk)
  rw [(h3 k hk).2, hm] at e
  simp [rV] at e
  rw [r, e.1]
theorem nodup_sub : ∀ (a b : List Int), a.Nodup → (∀ x ∈ a, x ∈ b) → a.length ≤ b.length
  | [], _, _, _ => Nat.zero_le _
  | x :: a, b, hn, h => by
    have hx : x ∈ b := h x (List.mem_cons_self ..)
    have h1 := nodup_sub a (b.erase x) (List.nodup_cons.1 hn).2 (fun y hy => by
      have hne : y ≠ x := fun e => (List.nodup_cons.1 hn).1 (e ▸ hy)
      exact (List.mem_erase_of_ne hne).2 (h y (List.mem_cons_of_mem _ hy)))
    rw [List.length_erase_of_mem hx] at h1
    have := List.length_pos_of_mem hx
    simp only [List.length_cons]
    omega
theorem lenI {w : World} {b n : Nat} {m : Int → Option Value} (h : MapI w b n m) (ks : List Int) (hn : ks.Nodup) (hk : ∀ x, x ∈ ks ↔ (m x).isSome = true) (ty : TypeId) :
    (Builtin.len_ #[235] ty #[.map (some b)]).run Tryz.prog w = .ok (.int .i64 (ks.length : Int)) w := by
  obtain ⟨D, h1, h2, h3⟩ := h.keys
  have e : Maps.size D = ks.length := by
    have hs : Maps.size D = (intKeys D).length := by
      obtain ⟨es, cl, hb, F, hs, rfl⟩ := h1
      simp [Maps.size, intKeys]
    rw [hs]
    exact Nat.le_antisymm (nodup_sub _ _ h2 (fun x hx => (hk x).2 ((h3 x).1 hx))) (nodup_sub _ _ hn (fun x hx => (h3 x).2 ((hk x).1 hx)))
  rw [h1.len Tryz.underlying235 ty, e]
end Go.Proofs.YtnldkpckojhbhaaGreat.V

/-
  Mount, given what find tells.
-/
namespace Go.Proofs.YtnldkpckojhbhaaGreat.V
open Go.RowKit
open Go.Proofs.YtnldkpckojhbhaaGreat.Dk (Box DS IsDisk Upd Rd RowB)
open Go.Proofs.YtnldkpckojhbhaaGreat.H (ImsD ImD doR MapI)

theorem mapI_same {w w' : World} {b n : Nat} {m : Int → Option Value} (h : MapI w b n m) (hb : w'.heap[b]? = w.heap[b]?) : MapI w' b n m := by
  obtain ⟨D, ⟨es, cl, h1, h2⟩, h3⟩ := h
  exact ⟨D, ⟨es, cl, hb.trans h1, h2⟩, h3⟩
/-- a volume of 64 blocks, its journal, its disk, what was committed since -/
structure VD (w : World) (v dg j gm : Nat) (ep : Int) (br : Bool) (S : J.JS) (xs : List Int) (D : DS) (cn : Nat) (m : Int → Option Value) (F : Nat → Prop) : Prop where
  box : Box w v (vC v dg j gm ep br) 80
  jd : J.JD w j dg S xs D F
  map : MapI w gm cn m
  nv : ¬ F v
  nm : ¬ F gm
  ne : v ≠ gm

set_option maxRecDepth 100000 in
set_option maxHeartbeats 4000000 in
theorem mount_in {g : Nat} {w : World} {D : DS} {F : Nat → Prop} (hd : IsDisk w g D F) (hnb : D.nb = 64) (hlim : D.uf.length ≤ 800000 ∧ D.n ≤ 800000)
    (E S t : Int) (slot : Int) (hE : 1 ≤ E ∧ E ≤ 8388608) (hS : 1 ≤ S ∧ S ≤ 549755813888) (ht : 0 ≤ t ∧ t ≤ 15) (sb : List UInt8) (hsb : Su.putSuper 64 E S t = some sb)
    (D' : DS) (hDn : D'.nb = 64) (PI : Option Addr → Nat → Nat → World → Prop)
    (cF : ∀ u, Below w.heap.size w u → Calls Tryz.prog 90 #[.pointer (some ⟨g, 0, none⟩), .agg #[.int .i64 64, .int .i64 2, .int .i64 16, .int .i64 18, .int .i64 19, .int .i64 4, .int .i64 23]] u fun r w' => ∃ a n c, r = .returned (.tuple #[.agg #[.slice a n c, .int .i64 64, .int .i64 E, .int .i64 S, .int .i64 t, .int .i64 slot], .int .i64 0]) ∧ PI a n c w' ∧ Below u.heap.size u w')
    (hPI : ∀ a n c u u', PI a n c u → Below u.heap.size u u' → PI a n c u')
    (hIm : ∀ a n c u, PI a n c u → Below w.heap.size w u → ∃ L : List ImD, L.length = n ∧ n ≤ 1000 ∧ ImsD u a L F ∧ doR D L (some sb) slot = (D', 0)) :
    Calls Tryz.prog 19 #[.pointer (some ⟨g, 0, none⟩)] w fun r w' => ∃ v j gm F', r = .returned (.tuple #[.pointer (some ⟨v, 0, none⟩), .int .i64 0]) ∧ VD w' v g j gm E false (J.opened 64 E S t) [] D' 0 (fun _ => none) F' ∧ (∀ i, F' i → F i ∨ w.heap.size ≤ i) ∧ w.heap.size ≤ v ∧ w.heap.size ≤ gm ∧ Upd F w w' := by
  have cS := Dk.size_of hd
  rw [hnb] at cS
  have cO := La.of_good 64 w (by decide) (by decide)
  rw [show La.layA 64 = #[.int .i64 64, .int .i64 2, .int .i64 16, .int .i64 18, .int .i64 19, .int .i64 4, .int .i64 23] by rfl] at cO
  have HD : Hid (IsDisk w g D F) := hd
  have HLim : Hid (D.uf.length ≤ 800000 ∧ D.n ≤ 800000) := hlim
  have HFl : Hid (∀ i, F i → i < w.heap.size) := hd.flt
  have HF : Hid (∀ u, Below w.heap.size w u → Calls Tryz.prog 90 #[.pointer (some ⟨g, 0, none⟩), .agg #[.int .i64 64, .int .i64 2, .int .i64 16, .int .i64 18, .int .i64 19, .int .i64 4, .int .i64 23]] u fun r w' => ∃ a n c, r = .returned (.tuple #[.agg #[.slice a n c, .int .i64 64, .int .i64 E, .int .i64 S, .int .i64 t, .int .i64 slot], .int .i64 0]) ∧ PI a n c w' ∧ Below u.heap.size u w') := cF
  have HPI : Hid (∀ a n c u u', PI a n c u → Below u.heap.size u u' → PI a n c u') := hPI
  have HIm : Hid (∀ a n c u, PI a n c u → Below w.heap.size w u → ∃ L : List ImD, L.length = n ∧ n ≤ 1000 ∧ ImsD u a L F ∧ doR D L (some sb) slot = (D', 0)) := hIm
  have HSb : Hid (Su.putSuper 64 E S t = some sb) := hsb
  have HNb : Hid (D.nb = 64) := hnb
  clear hd hlim cF hPI hIm hsb hnb
  have hmk := @run_makeMap Tryz.prog
  go_enter Tryz.func19, Tryz.ntmps19
  go_wp2_with fail
  refine Calls.mono cS ?_
  rintro r w' ⟨rfl, rfl⟩
  go_wp2_with fail
  refine Calls.mono cO ?_
  rintro r u1 ⟨rfl, b1⟩
  have x := Box.new u1 #[.int .i64 64, .int .i64 2, .int .i64 16, .int .i64 18, .int .i64 19, .int .i64 4, .int .i64 23] 57
  have bx := (Below.refl u1.heap.size u1).alloc (Nat.le_refl _) (.cells #[.int .i64 64, .int .i64 2, .int .i64 16, .int .i64 18, .int .i64 19, .int .i64 4, .int .i64 23] 57)
  have B2 := b1.trans (bx.mono b1.size)
  have hu1 : Hid (w.heap.size ≤ u1.heap.size) := b1.size
  obtain ⟨k0, k1, k2, k3, k4, k5, k6⟩ := all7 x
  have cF := HF.out _ B2
  obtain ⟨u2, hu2⟩ : ∃ u, u = u1.alloc (.cells #[.int .i64 64, .int .i64 2, .int .i64 16, .int .i64 18, .int .i64 19, .int .i64 4, .int .i64 23] 57) := ⟨_, rfl⟩
  have HU2 : Hid (u2 = u1.alloc (.cells #[.int .i64 64, .int .i64 2, .int .i64 16, .int .i64 18, .int .i64 19, .int .i64 4, .int .i64 23] 57)) := hu2
  rw [← hu2] at x B2 cF
  clear cS cO b1 bx hu2 HF
  go_wp2_with fail
  rw [← HU2.out]
  refine Calls.mono cF ?_
  rintro r u3 ⟨a, n, c, rfl, hpi, b3⟩
  have B3 := B2.trans (b3.mono B2.size)
  have x3 := x.below b3
  have y := Box.new u3 #[.slice a n c, .int .i64 64, .int .i64 E, .int .i64 S, .int .i64 t, .int .i64 slot] 143
  have bx := (Below.refl u3.heap.size u3).alloc (Nat.le_refl _) (.cells #[.slice a n c, .int .i64 64, .int .i64 E, .int .i64 S, .int .i64 t, .int .i64 slot] 143)
  have B4 := B3.trans (bx.mono B3.size)
  have x4 := x3.below bx
  have hpi4 := HPI.out a n c _ _ hpi bx
  obtain ⟨L, hL1, hL2, hL3, hL4⟩ := HIm.out a n c _ hpi4 B4
  have cD := H.do_at (HD.out.below B4) a n c L 64 E S t slot hL1 hL2 hL3 HLim.out
  rw [HSb.out, hL4] at cD
  obtain ⟨p0, p1, p2, p3, p4, p5⟩ := all6 y
  obtain ⟨u4, hu4⟩ : ∃ u, u = u3.alloc (.cells #[.slice a n c, .int .i64 64, .int .i64 E, .int .i64 S, .int .i64 t, .int .i64 slot] 143) := ⟨_, rfl⟩
  have HU4 : Hid (u4 = u3.alloc (.cells #[.slice a n c, .int .i64 64, .int .i64 E, .int .i64 S, .int .i64 t, .int .i64 slot] 143)) := hu4
  rw [← hu4] at x4 y B4 cD
  have hz : Hid (w.heap.size ≤ u3.heap.size) := B3.size
  clear cF k0 k1 k2 k3 k4 k5 k6 x x3 B2 B3 b3 bx hu4 hpi hpi4 hL1 hL2 hL3 hL4 HIm HPI HU2
  go_wp2_with fail
  rw [← HU4.out]
  refine Calls.mono cD ?_
  rintro r u5 ⟨rfl, ⟨F5, hd5, hF5⟩, U5⟩
  have hnF : ∀ i, w.heap.size ≤ i → ¬ F i := fun i h hf => by have := HFl.out i hf; omega
  have x5 := U5.box x4 (hnF _ hu1.out)
  have y5 := U5.box y (hnF _ hz.out)
  have hd5n := hDn
  obtain ⟨gd, cd, vu, ps, hl5⟩ := hd5
  have cJ := J.open_good hl5 (by omega) (by omega) E S t hE hS ⟨ht.1, by rw [hd5n]; exact ht.2⟩
  rw [hd5n] at cJ
  rw [show La.layA 64 = #[.int .i64 64, .int .i64 2, .int .i64 16, .int .i64 18, .int .i64 19, .int .i64 4, .int .i64 23] by rfl] at cJ
  obtain ⟨k0, k1, k2, k3, k4, k5, k6⟩ := all7 x5
  clear p0 p1 p2 p3 p4 p5
  obtain ⟨p0, p1, p2, p3, p4, p5⟩ := all6 y5
  have HD5 : Hid (IsDisk u5 g D' F5) := ⟨gd, cd, vu, ps, hl5⟩
  have HU5 : Hid (Upd F w u5) := (Dk.Upd.of_below B4).trans U5 (fun i h => .inl h)
  have HF5 : Hid (∀ i, F5 i → F i ∨ w.heap.size ≤ i) := fun i hi => by
    rcases hF5 i hi with h | h
    · exact .inl h
    · exact .inr (Nat.le_trans B4.size h)
  clear cD hl5 U5 hF5 x4 y B4 hd5n HU4
  go_wp2_with fail
  refine Calls.mono cJ ?_
  rintro r u6 ⟨j, hj, rfl, xj, b6⟩
  have x6 := x5.below b6
  have y6 := y5.below b6
  clear k0 k1 k2 k3 k4 k5 k6 p0 p1 p2 p3 p4 p5
  obtain ⟨k0, k1, k2, k3, k4, k5, k6⟩ := all7 x6
  obtain ⟨p0, p1, p2, p3, p4, p5⟩ := all6 y6
  have mk := MapI.made u6
  have xv := Box.new (u6.alloc (.map #[] 0)) (vC (u6.heap.size + 1) g j u6.heap.size E false) 80
  rw [show (u6.alloc (.map #[] 0)).heap.size = u6.heap.size + 1 by simp] at xv
  have B8 := ((Below.refl u6.heap.size u6).alloc (Nat.le_refl _) (.map #[] 0)).alloc (by simp) (.cells (vC (u6.heap.size + 1) g j u6.heap.size E false) 80)
  have m8 := mk.below ((Below.refl _ (u6.alloc (.map #[] 0))).alloc (Nat.le_refl _) (.cells (vC (u6.heap.size + 1) g j u6.heap.size E false) 80))
  have hj5 : Hid (¬ F5 j) := fun hf => by have := HD5.out.flt j hf; omega
  have hjlt : Hid (j < u6.heap.size) := xj.lt
  have HJ : Hid (J.JD u6 j g (J.opened 64 E S t) [] D' (fun i => F5 i ∨ i = j)) :=
    ⟨⟨.slice none 0 0, F5, xj, HD5.out.below b6, hj5.out, World.ownsRow_nil _ _ _ _, fun k hk => by simp [Value.ownBlock] at hk, fun i h => .inl h⟩, .inr rfl, fun i hi => by
      rcases hi with h | h
      · exact Nat.lt_of_lt_of_le (HD5.out.flt i h) b6.size
      · rw [h]; exact hjlt.out⟩
  have HU6 : Hid (Upd F w u6) := HU5.out.thenB b6
  have HB8 : Hid (Below u6.heap.size u6 ((u6.alloc (.map #[] 0)).alloc (.cells (vC (u6.heap.size + 1) g j u6.heap.size E false) 80))) := B8
  have HXv : Hid (Box ((u6.alloc (.map #[] 0)).alloc (.cells (vC (u6.heap.size + 1) g j u6.heap.size E false) 80)) (u6.heap.size + 1) (vC (u6.heap.size + 1) g j u6.heap.size E false) 80) := xv
  have HM8 : Hid (MapI ((u6.alloc (.map #[] 0)).alloc (.cells (vC (u6.heap.size + 1) g j u6.heap.size E false) 80)) u6.heap.size 0 (fun _ => none)) := m8
  have hwj : Hid (w.heap.size ≤ j) := Nat.le_trans HU5.out.size hj
  have hw6 : Hid (w.heap.size ≤ u6.heap.size) := HU6.out.size
  clear cJ x5 x6 y5 y6 xv m8 mk B8 b6 xj hj
  go_wp2_with fail
  refine bodyPost_ret (v := .tuple #[.pointer (some ⟨u6.heap.size + 1, 0, none⟩), .int .i64 0]) (by simp [results, Tryz.results19, go_sem]) rfl ?_
  refine ⟨u6.heap.size + 1, j, u6.heap.size, fun i => F5 i ∨ i = j, rfl, ⟨HXv.out, HJ.out.below HJ.out.flt HB8.out HB8.out.size, HM8.out, fun hh => ?_, fun hh => ?_, by omega⟩, fun i hi => ?_, ?_, hw6.out, HU6.out.thenB HB8.out⟩
  · have := HJ.out.flt _ hh; omega
  · have := HJ.out.flt _ hh; omega
  · rcases hi with h | h
    · exact HF5.out i h
    · exact .inr (by rw [h]; exact hwj.out)
  · have := hw6.out; omega
end Go.Proofs.YtnldkpckojhbhaaGreat.V

/-
  Commit where there is room.
-/
namespace Go.Proofs.YtnldkpckojhbhaaGreat.V
open Go.RowKit
open Go.Proofs.YtnldkpckojhbhaaGreat.Dk (Box DS IsDisk Upd Rd RowB)
open Go.Proofs.YtnldkpckojhbhaaGreat.H (MapI)
open Go.Proofs.YtnldkpckojhbhaaGreat.Rc (Imgs)

theorem VD.below {w w' : World} {v dg j gm : Nat} {ep : Int} {br : Bool} {S : J.JS} {xs : List Int} {D : DS} {cn : Nat} {m : Int → Option Value} {F : Nat → Prop} (h : VD w v dg j gm ep br S xs D cn m F) (b : Below w.heap.size w w') : VD w' v dg j gm ep br S xs D cn m F :=
  ⟨h.box.below b, h.jd.below h.jd.flt b b.size, h.map.below b, h.nv, h.nm, h.ne⟩

/-- may l be a group's images? those that may -/
structure MayG (is : List (Int × List UInt8)) : Prop where
  lo : 1 ≤ is.length
  hi : is.length ≤ 32
  len : ∀ i ∈ is, i.2.length = 4096
  nd : (is.map (·.1)).Nodup
  wf : ∀ i ∈ is, (Lit.int .i64 i.1).wf = true
def seen (ks : List Int) : Int → Option Value := fun j => if j ∈ ks then some (.int .i64 1) else none
theorem seen_snoc (ks : List Int) (k : Int) : (fun j => if j = k then some (Value.int .i64 1) else seen ks j) = seen (ks ++ [k]) := by
  funext j
  unfold seen
  by_cases h : j = k
  · subst h; simp
  · by_cases h2 : j ∈ ks <;> simp [h, h2]
theorem box_map {w w' : World} {g b : Nat} {cs : Array Value} {t : TypeId} {n : Nat} {m : Int → Option Value} (h : Box w g cs t) (hm : MapI w b n m) (hg : w.grownBy w' (some b)) : Box w' g cs t := by
  have hne : some g ≠ some b := fun e => by
    injection e with e
    subst e
    obtain ⟨D, ⟨es, cl, h1, _⟩, _⟩ := hm
    rw [show w.heap[g]? = _ from h] at h1
    cases h1
  exact (hg.block g h.lt hne).trans h

set_option maxRecDepth 100000 in
set_option maxHeartbeats 4000000 in
theorem mayBe_yes (w : World) (a : Option Addr) (n c : Nat) (is : List (Int × List UInt8)) (hl : is.length = n) (hI : Imgs w a is) (hG : MayG is) :
    Calls Tryz.prog 138 #[.slice a n c] w fun r w' => r = .returned (.bool true) ∧ Below w.heap.size w w' := by
  have hn1 : 1 ≤ n := by have := hG.lo; omega
  have hn32 : n ≤ 32 := by have := hG.hi; omega
  have cW := within_at (n : Int) 1 32 w
  rw [decide_eq_true ⟨by omega, by omega⟩] at cW
  have HL : Hid (is.length = n) := hl
  have HI : Hid (Imgs w a is) := hI
  have HG : Hid (MayG is) := hG
  have mk := MapI.made w
  have HM0 : Hid (MapI (w.alloc (.map #[] 0)) w.heap.size 0 (seen ((is.map (·.1)).take 0))) := by
    have : (fun _ => none) = seen ((is.map (·.1)).take 0) := by funext j; simp [seen]
    rw [← this]
    exact mk
  have B0 := (Below.refl w.heap.size w).alloc (Nat.le_refl _) (.map #[] 0)
  clear hl hI hG mk
  have hmk := @run_makeMap Tryz.prog
  go_enter Tryz.func138, Tryz.ntmps138
  go_wp2_with fail
  refine Calls.mono cW ?_
  rintro r w' ⟨rfl, rfl⟩
  clear cW
  go_wp2_with fail
  go_loopw [13] (fun i u => ∃ k : Nat, k ≤ n ∧ i = .int .i64 (k : Int) ∧ MapI u w.heap.size k (seen ((is.map (·.1)).take k)) ∧ Below w.heap.size w u) (fun i _ => n - (intOf i).toNat)
  case atStart => exact ⟨0, Nat.zero_le _, rfl, HM0.out, B0⟩
  case round =>
    obtain ⟨k, hk, rfl, hm, B⟩ := hrel
    have HM : Hid (MapI wr w.heap.size k (seen ((is.map (·.1)).take k))) := hm
    clear hm HM0 B0
    by_cases hlt : k < n
    · have hki : (k : Int) < (n : Int) := by omega
      have hkl : k < is.length := by rw [HL.out]; exact hlt
      obtain ⟨bb, o, rfl, hcc⟩ := HI.out (by omega)
      obtain ⟨z0, ax, cx, z1, _, _, _, _⟩ := hcc k hkl
      have h4 := HG.out.len _ (List.getElem_mem hkl)
      rw [h4] at z1
      have hwf := HG.out.wf _ (List.getElem_mem hkl)
      have hnew : seen ((is.map (·.1)).take k) is[k].1 = none := by
        unfold seen
        rw [if_neg]
        intro hmem
        have hnd := HG.out.nd
        have hkm : k < (is.map (·.1)).length := by simpa using hkl
        rw [← List.take_append_drop k (is.map (·.1)), List.drop_eq_getElem_cons hkm] at hnd
        have := (List.nodup_append.1 hnd).2.2 _ hmem _ (List.mem_cons_self ..)
        rw [List.getElem_map] at this
        exact this rfl
      have hnext : Hid ((is.map (·.1)).take (k + 1) = (is.map (·.1)).take k ++ [is[k].1]) := by
        show _ = _
        rw [List.take_succ_eq_append_getElem (by simpa using hkl), List.getElem_map]
      generalize (is[k]'hkl) = P at z0 z1 h4 hwf hnew hnext
      obtain ⟨pb, xs⟩ := P
      dsimp only at z0 z1 hwf hnew hnext
      have lb := block_lt_of_cell z0
      have x0 := (B.cell (p := ⟨bb, o + k * 2, none⟩) lb).trans z0
      have x1 := (B.cell (p := ⟨bb, o + k * 2 + 1, none⟩) lb).trans z1
      have bx := Box.new wr #[.int .i64 pb, .slice ax 4096 cx] 89
      have bA := (Below.refl wr.heap.size wr).alloc (Nat.le_refl _) (.cells #[.int .i64 pb, .slice ax 4096 cx] 89)
      have m1 := HM.out.below bA
      have B1 := B.trans (bA.mono B.size)
      have y0 := bx.cell 0
      have y1 := bx.cell 1
      simp only [List.getElem?_toArray, List.getElem?_cons_zero, List.getElem?_cons_succ] at y0 y1
      have hlook := lookI m1 pb hwf hnew
      obtain ⟨u', hrun, m2, gb⟩ := updateI m1 (by unfold maxLen; omega) pb hwf (.int .i64 1)
      rw [seen_snoc] at m2
      have HM2 : Hid (MapI u' w.heap.size (k + 1) (seen ((is.map (·.1)).take k ++ [pb]))) := m2
      have B2 : Below w.heap.size w u' := B1.grown gb B1.size (fun i e => by cases e; exact Nat.le_refl _)
      clear hcc z0 z1 lb bx bA m1 m2 gb B B1 h4 hnew
      go_wp2_with fail
      go_roundw
      case rel => exact ⟨k + 1, by omega, by push_cast; rfl, by rw [hnext.out]; exact HM2.out, B2⟩
      case measure => simp [intOf]; omega
    · have hkn : k = n := by omega
      have hlen := lenI HM.out (is.map (·.1)) HG.out.nd (fun x => by
        rw [hkn, List.take_of_length_le (by simp [HL.out])]
        unfold seen
        by_cases hx : x ∈ is.map (·.1) <;> simp [hx]) 3
      rw [List.length_map, HL.out] at hlen
      subst hkn
      go_wp2_with fail
      go_ret
      exact ⟨rfl, B⟩

section
variable {w : World} {v dg j gm : Nat} {ep : Int} {S : J.JS} {xs : List Int} {D : DS} {cn : Nat} {m : Int → Option Value} {F : Nat → Prop}

theorem hasRoom_at (hV : VD w v dg j gm ep false S xs D cn m F) (n : Int) (h0 : 0 ≤ n) (h1 : n ≤ 1000) (hU : 0 ≤ S.U ∧ S.U ≤ 1000) (hr : S.U + (n + 1) ≤ S.S) :
    Calls Tryz.prog 79 #[.pointer (some ⟨v, 0, none⟩), .int .i64 n] w fun r w' => r = .returned (.bool true) ∧ Below w.heap.size w w' := by
  have c10 := (vcells hV.box).c10
  obtain ⟨⟨vs, Fd, hb, _⟩, _, _⟩ := hV.jd
  have cR := J.ring_at hb
  have H3 : Hid (∀ u : World, Calls Tryz.prog 97 #[.int .i64 n] u fun e w' => e = .returned (.int .i64 (n + 1)) ∧ w' = u) := fun u => (blocksOf_at n u (by omega) (by omega)).mono fun e w' ⟨e1, e2⟩ => ⟨e1, e2.symm⟩
  clear hV hb
  go_enter Tryz.func79, Tryz.ntmps79
  go_wp2_with fail
  refine Calls.mono cR ?_
  rintro r u1 ⟨rfl, b1⟩
  have x := Box.new u1 #[.int .i64 S.S, .int .i64 S.T, .int .i64 S.U, .int .i64 S.H] 59
  have B := b1.alloc b1.size (.cells #[.int .i64 S.S, .int .i64 S.T, .int .i64 S.U, .int .i64 S.H] 59)
  have x0 := x.cell 0
  have x2 := x.cell 2
  simp only [List.getElem?_toArray, List.getElem?_cons_zero, List.getElem?_cons_succ] at x0 x2
  clear cR b1 x
  go_wp2_with fail
  go_quiet ((go_at_call 97; exact Calls.quiet_of_same (H3.out _)))
  have B2 := below_drewN B nq
  go_wp2_with fail
  go_ret
  exact ⟨rfl, B2⟩

set_option maxRecDepth 100000 in
set_option maxHeartbeats 4000000 in
theorem mayCommit_yes (hV : VD w v dg j gm ep false S xs D cn m F) (a : Option Addr) (n c : Nat) (is : List (Int × List UInt8)) (hl : is.length = n) (hI : Imgs w a is) (hG : MayG is) (hB : ∀ i ∈ is, 18 ≤ i.1 ∧ i.1 ≤ 63) (h15 : n ≤ 15) :
    Calls Tryz.prog 78 #[.pointer (some ⟨v, 0, none⟩), .slice a n c] w fun r w' => r = .returned (.int .i64 0) ∧ Below w.heap.size w w' := by
  have cA := ahead_at hV.box
  have HV : Hid (Box w v (vC v dg j gm ep false) 80) := hV.box
  have HL : Hid (is.length = n) := hl
  have HI : Hid (Imgs w a is) := hI
  have HG : Hid (MayG is) := hG
  have HB : Hid (∀ i ∈ is, 18 ≤ i.1 ∧ i.1 ≤ 63) := hB
  have hn1 : 1 ≤ n := by have := hG.lo; omega
  clear hV hl hI hG hB
  go_enter Tryz.func78, Tryz.ntmps78
  go_wp2_with fail
  refine Calls.mono cA ?_
  rintro r w' ⟨rfl, rfl⟩
  clear cA
  go_wp2_with fail
  go_loopw [15] (fun i u => ∃ k : Nat, k ≤ n ∧ i = .int .i64 (k : Int) ∧ Below w.heap.size w u) (fun i _ => n - (intOf i).toNat)
  case atStart => exact ⟨0, Nat.zero_le _, rfl, Below.refl _ _⟩
  case round =>
    obtain ⟨k, hk, rfl, B⟩ := hrel
    by_cases hlt : k < n
    · have hki : (k : Int) < (n : Int) := by omega
      have hkl : k < is.length := by rw [HL.out]; exact hlt
      obtain ⟨bb, o, rfl, hcc⟩ := HI.out (by omega)
      obtain ⟨z0, ax, cx, z1, _, _, _, _⟩ := hcc k hkl
      have hb := HB.out _ (List.getElem_mem hkl)
      generalize (is[k]'hkl) = P at z0 z1 hb
      obtain ⟨pb, ys⟩ := P
      dsimp only at z0 z1 hb
      have lb := block_lt_of_cell z0
      have x0 := (B.cell (p := ⟨bb, o + k * 2, none⟩) lb).trans z0
      have x1 := (B.cell (p := ⟨bb, o + k * 2 + 1, none⟩) lb).trans z1
      generalize ys.length = yl at x1 z1
      have bx := Box.new wr #[.int .i64 pb, .slice ax yl cx] 89
      have bA := (Below.refl wr.heap.size wr).alloc (Nat.le_refl _) (.cells #[.int .i64 pb, .slice ax yl cx] 89)
      have B1 := B.trans (bA.mono B.size)
      have y0 := bx.cell 0
      simp only [List.getElem?_toArray, List.getElem?_cons_zero] at y0
      have cs := vcells (HV.out.below B1)
      have c2 := cs.c2
      have c5 := cs.c5
      have H3 : Hid (∀ u : World, Calls Tryz.prog 96 #[.int .i64 pb, .int .i64 18, .int .i64 63] u fun e w' => e = .returned (.bool true) ∧ w' = u) := fun u => (within_at pb 18 63 u).mono fun e w' ⟨e1, e2⟩ => ⟨by rw [e1, decide_eq_true hb], e2.symm⟩
      clear hcc z0 z1 lb bx bA B cs
      go_wp2_with fail
      go_quiet ((go_at_call 96; exact Calls.quiet_of_same (H3.out _)))
      have B2 := below_drewN B1 nq
      clear x0 x1 y0 c2 c5 H3 B1
      go_wp2_with fail
      go_roundw
      case rel => exact ⟨k + 1, by omega, by push_cast; rfl, B2⟩
      case measure => simp [intOf]; omega
    · have hkn : k = n := by omega
      have cM := mayBe_yes wr a n c is HL.out (HI.out.below B) HG.out
      clear hlt hk
      subst hkn
      go_wp2_with fail
      refine Calls.mono cM ?_
      rintro r u2 ⟨rfl, b2⟩
      have B2 := B.trans (b2.mono B.size)
      have cF := fits_at (HV.out.below B2) (k : Int) (by omega) (by omega)
      clear cM
      go_wp2_with fail
      refine Calls.mono cF ?_
      rintro r u3 ⟨rfl, b3⟩
      have B3 := B2.trans (b3.mono B2.size)
      clear cF
      go_wp2_with fail
      go_ret
      exact ⟨rfl, B3⟩
end
end Go.Proofs.YtnldkpckojhbhaaGreat.V

/-
  A volume with what was committed; Commit where there is room; Read.
-/
namespace Go.Proofs.YtnldkpckojhbhaaGreat.V
open Go.RowKit
open Go.Proofs.YtnldkpckojhbhaaGreat.Dk (Box DS IsDisk Upd Rd RowB)
open Go.Proofs.YtnldkpckojhbhaaGreat.H (MapI)
open Go.Proofs.YtnldkpckojhbhaaGreat.Rc (Imgs)

/-- what m has of a block -/
def RowOf (w : World) (F : Nat → Prop) (gm : Nat) (o : Option (List UInt8)) (x : Option Value) : Prop :=
  match o with
  | none => x = none
  | some ys => ∃ g c, x = some (.slice (some ⟨g, 0, none⟩) 4096 c) ∧ RowB w g c ys ∧ ¬ F g ∧ g ≠ gm ∧ ys.length = 4096
/-- a volume, and what was committed since its last checkpoint; none of it lies in A -/
def VWA (A : Nat → Prop) (w : World) (v dg j gm : Nat) (ep : Int) (br : Bool) (S : J.JS) (xs : List Int) (D : DS) (cn : Nat) (dat : Int → Option (List UInt8)) (F : Nat → Prop) : Prop :=
  ∃ m, VD w v dg j gm ep br S xs D cn m F ∧ ∀ k, RowOf w (fun i => F i ∨ A i) gm (dat k) (m k)
/-- .. wherever it lies -/
abbrev VW (w : World) (v dg j gm : Nat) (ep : Int) (br : Bool) (S : J.JS) (xs : List Int) (D : DS) (cn : Nat) (dat : Int → Option (List UInt8)) (F : Nat → Prop) : Prop :=
  VWA (fun _ => False) w v dg j gm ep br S xs D cn dat F
def dats (dat : Int → Option (List UInt8)) (is : List (Int × List UInt8)) : Int → Option (List UInt8) := is.foldl (fun d p => fun k => if k = p.1 then some p.2 else d k) dat
theorem dats_snoc (dat : Int → Option (List UInt8)) (is : List (Int × List UInt8)) (p : Int × List UInt8) : dats dat (is ++ [p]) = fun k => if k = p.1 then some p.2 else dats dat is k := by
  simp [dats, List.foldl_append]
theorem RowOf.kept {w w' : World} {F F' : Nat → Prop} {gm : Nat} {o : Option (List UInt8)} {x : Option Value} (h : RowOf w F gm o x) (hk : ∀ i, i < w.heap.size → ¬ F i → i ≠ gm → w'.heap[i]? = w.heap[i]?) (hF : ∀ i, i < w.heap.size → F' i → F i) : RowOf w' F' gm o x := by
  cases o with
  | none => exact h
  | some ys =>
    obtain ⟨g, c, h1, h2, h3, h4, h5⟩ := h
    exact ⟨g, c, h1, h2.same (hk g h2.lt h3 h4), fun hf => h3 (hF g h2.lt hf), h4, h5⟩
section
variable {A : Nat → Prop} {w w' : World} {v dg j gm : Nat} {ep : Int} {br : Bool} {S S' : J.JS} {xs ys : List Int} {D D' : DS} {cn : Nat} {dat : Int → Option (List UInt8)} {F F' : Nat → Prop}
theorem VWA.below (h : VWA A w v dg j gm ep br S xs D cn dat F) (b : Below w.heap.size w w') : VWA A w' v dg j gm ep br S xs D cn dat F := by
  obtain ⟨m, h1, h2⟩ := h
  exact ⟨m, h1.below b, fun k => (h2 k).kept (fun i hi _ _ => b.block i hi) (fun _ _ h => h)⟩
theorem VWA.vlt (h : VWA A w v dg j gm ep br S xs D cn dat F) : v < w.heap.size ∧ gm < w.heap.size := by
  obtain ⟨m, h1, h2⟩ := h
  exact ⟨h1.box.lt, h1.map.lt⟩
/-- the journal and its disk have turned -/
theorem VWA.turn (h : VWA A w v dg j gm ep br S xs D cn dat F) (hj : J.JD w' j dg S' ys D' F') (hF : ∀ i, F' i → F i ∨ w.heap.size ≤ i) (hu : Upd F w w') : VWA A w' v dg j gm ep br S' ys D' cn dat F' := by
  have hl := h.vlt
  obtain ⟨m, h1, h2⟩ := h
  have hf : ∀ i, i < w.heap.size → F' i → F i := fun i hi hf => by
    rcases hF i hf with h | h
    · exact h
    · omega
  refine ⟨m, ⟨hu.box h1.box h1.nv, hj, mapI_same h1.map (hu.block gm hl.2 h1.nm), fun hh => h1.nv (hf _ hl.1 hh), fun hh => h1.nm (hf _ hl.2 hh), h1.ne⟩, fun k => (h2 k).kept (fun i hi h3 _ => hu.block i hi (fun q => h3 (.inl q))) (fun i hi hh => hh.elim (fun q => .inl (hf i hi q)) .inr)⟩
theorem VWA.put (h : VWA A w v dg j gm ep br S xs D cn dat F) (hcn : cn < maxLen) (k : Int) (hk : (Lit.int .i64 k).wf = true) (g c : Nat) (zs : List UInt8) (hr : RowB w g c zs) (hF : ¬ F g) (hA : ¬ A g) (hx : zs.length = 4096) :
    ∃ u', (Instr.mapUpdate 78 (.map (some gm)) (.int .i64 k) (.slice (some ⟨g, 0, none⟩) 4096 c)).run Tryz.prog w = .ok () u' ∧ VWA A u' v dg j gm ep br S xs D (cn + 1) (fun i => if i = k then some zs else dat i) F ∧ w.grownBy u' (some gm) := by
  obtain ⟨m, h1, h2⟩ := h
  obtain ⟨u', r, m2, gb⟩ := updateB h1.map hcn k hk (.slice (some ⟨g, 0, none⟩) 4096 c)
  have hne : ∀ i, i ≠ gm → i < w.heap.size → u'.heap[i]? = w.heap[i]? := fun i hi hl => gb.block i hl (fun e => by injection e with e; exact hi e)
  have hgm : g ≠ gm := fun e => by
    subst e
    obtain ⟨cur, hb, _⟩ := hr
    obtain ⟨_, ⟨es, cl, hm, _⟩, _⟩ := h1.map
    rw [show w.heap[g]? = _ from hb] at hm
    cases hm
  refine ⟨u', r, ⟨_, ⟨(hne v h1.ne h1.box.lt).trans h1.box, h1.jd.kept (fun i hi => hne i (fun e => h1.nm (e ▸ hi)) (h1.jd.flt i hi)) gb.size, m2, h1.nv, h1.nm, h1.ne⟩, fun i => ?_⟩, gb⟩
  dsimp only
  by_cases hi : i = k
  · subst hi
    rw [if_pos rfl, if_pos rfl]
    exact ⟨g, c, rfl, hr.same (hne g hgm hr.lt), fun q => q.elim hF hA, hgm, hx⟩
  · rw [if_neg hi, if_neg hi]
    exact (h2 i).kept (fun i hi _ h3 => hne i h3 hi) (fun _ _ h => h)

theorem read_mem (h : VWA A w v dg j gm ep false S xs D cn dat F) (n : Int) (hn : (Lit.int .i64 n).wf = true) (zs : List UInt8) (hd : dat n = some zs) :
    Calls Tryz.prog 24 #[.pointer (some ⟨v, 0, none⟩), .int .i64 n] w fun r w' => ∃ g c, r = .returned (.tuple #[.slice (some ⟨g, 0, none⟩) 4096 c, .int .i64 0]) ∧ w.heap.size ≤ g ∧ RowB w' g c zs ∧ Below w.heap.size w w' := by
  obtain ⟨m, h1, h2⟩ := h
  have hk := h2 n
  rw [hd] at hk
  obtain ⟨g, c, hm, hr, _, _, hl⟩ := hk
  have cA := ahead_at h1.box
  have c11 := (vcells h1.box).c11
  have hlook := lookB h1.map n hn
  rw [hm] at hlook
  have hlook2 : (Instr.lookup 78 (.map (some gm)) (.int .i64 n) true).run Tryz.prog w = .ok (.tuple #[.slice (some ⟨g, 0, none⟩) 4096 c, .bool true]) w := hlook
  have cC := Dk.clone_at c 4096 ⟨g, 0, none⟩ zs w hl (by decide) (by decide) hr.rd
  clear h1 h2 hm hr hlook
  go_enter Tryz.func24, Tryz.ntmps24
  go_wp2_with fail
  refine Calls.mono cA ?_
  rintro r w' ⟨rfl, rfl⟩
  clear cA
  go_wp2_with fail
  refine Calls.mono cC ?_
  rintro r u ⟨g', c', rfl, hg', hr', b'⟩
  clear cC hlook2
  go_wp2_with fail
  exact bodyPost_ret (v := .tuple #[.slice (some ⟨g', 0, none⟩) 4096 c', .int .i64 0]) (by simp [results, Tryz.results24, go_sem]) rfl ⟨g', c', rfl, hg', hr', b'⟩
theorem read_disk (h : VWA A w v dg j gm ep false S xs D cn dat F) (n : Nat) (hn : n < 64) (hnb : D.nb = 64) (hg : D.gone = false) (hlim : D.uf.length ≤ 1000000) (hd : dat n = none) :
    Calls Tryz.prog 24 #[.pointer (some ⟨v, 0, none⟩), .int .i64 n] w fun r w' => ∃ g c, r = .returned (.tuple #[.slice (some ⟨g, 0, none⟩) 4096 c, .int .i64 0]) ∧ w.heap.size ≤ g ∧ RowB w' g c (D.stand n) ∧ Below w.heap.size w w' := by
  obtain ⟨m, h1, h2⟩ := h
  have hk := h2 n
  rw [hd] at hk
  have hm : m n = none := hk
  have cA := ahead_at h1.box
  have c11 := (vcells h1.box).c11
  have c1 := (vcells h1.box).c1
  have hlook := lookB h1.map n (by simp [Lit.wf, IntKind.min, IntKind.max, IntKind.bits, IntKind.signed]; omega)
  rw [hm] at hlook
  have hlook2 : (Instr.lookup 78 (.map (some gm)) (.int .i64 (n : Int)) true).run Tryz.prog w = .ok (.tuple #[.slice none 0 0, .bool false]) w := hlook
  obtain ⟨Fd, hdk, _⟩ := h1.jd.disk
  have cR := Dk.read_at hdk n (by omega) hg hlim
  clear h1 h2 hm hk hlook hdk
  go_enter Tryz.func24, Tryz.ntmps24
  go_wp2_with fail
  refine Calls.mono cA ?_
  rintro r w' ⟨rfl, rfl⟩
  clear cA
  go_wp2_with fail
  refine Calls.mono cR ?_
  rintro r u ⟨g', c', rfl, hg', hr', b'⟩
  clear cR hlook2
  go_wp2_with fail
  exact bodyPost_ret (v := .tuple #[.slice (some ⟨g', 0, none⟩) 4096 c', .int .i64 0]) (by simp [results, Tryz.results24, go_sem]) rfl ⟨g', c', rfl, hg', hr', b'⟩

set_option maxRecDepth 100000 in
set_option maxHeartbeats 4000000 in
theorem commit_ok (h : VWA A w v dg j gm ep false S xs D cn dat F) (hA : ∀ i, A i → i < w.heap.size) (al : Option Addr) (n cap : Nat) (is : List (Int × List UInt8)) (hl : is.length = n) (hI : Imgs w al is) (hIF : ∀ (ad : Addr), al = some ad → ¬ F ad.block ∧ ad.block ≠ gm) (hID : ∀ k (hk : k < is.length) (b o : Nat) (x : Option Addr) (c : Nat), al = some ⟨b, o, none⟩ → w.cell? ⟨b, o + k * 2 + 1, none⟩ = some (.slice x is[k].2.length c) → ∀ ad, x = some ad → ¬ F ad.block ∧ ad.block ≠ gm)
    (hG : MayG is) (hB : ∀ i ∈ is, 18 ≤ i.1 ∧ i.1 ≤ 63) (h15 : n ≤ 15) (hok : Rc.okGroup S.epoch S.next is) (hJb : S.broken = false) (hR : Rg.R S.S S.T S.U S.H) (hS16 : S.S = 16) (hH : S.H = 0) (hroom : S.U + ((n : Int) + 1) ≤ 16) (hlog : S.log = 2) (hc : J.Calm D) (hnb : D.nb = 64) (hd1 : D.uf.length ≤ 900000) (hd2 : D.n ≤ 900000) (hx : xs.length ≤ 1000) (hcn : cn ≤ 100000) :
    Calls Tryz.prog 15 #[.pointer (some ⟨v, 0, none⟩), .slice al n cap] w fun r w' => r = .returned (.tuple #[.int .i64 S.next, .int .i64 0]) ∧ ∃ F', VWA A w' v dg j gm ep false { S with next := S.next + 1, U := S.U + (n + 1 : Nat), H := S.H - 0 } (xs ++ [((n + 1 : Nat) : Int)]) (J.grow D S.S.toNat ((S.T + S.U) % S.S).toNat (Rc.putL S.epoch.toNat S.next.toNat is) (n + 1)) (cn + n) (dats dat is) F' ∧ (∀ i, F' i → F i ∨ w.heap.size ≤ i) ∧ Upd (fun i => F i ∨ i = gm) w w' := by
  obtain ⟨m0, hV, hm0⟩ := id h
  have hnb1 : 1 ≤ n := by have := hG.lo; omega
  have cM := mayCommit_yes hV al n cap is hl hI hG hB h15
  have HV : Hid (VWA A w v dg j gm ep false S xs D cn dat F) := h
  have HI : Hid (Imgs w al is) := hI
  have HIF : Hid (∀ (ad : Addr), al = some ad → ¬ F ad.block ∧ ad.block ≠ gm) := hIF
  have HID : Hid (∀ k (hk : k < is.length) (b o : Nat) (x : Option Addr) (c : Nat), al = some ⟨b, o, none⟩ → w.cell? ⟨b, o + k * 2 + 1, none⟩ = some (.slice x is[k].2.length c) → ∀ ad, x = some ad → ¬ F ad.block ∧ ad.block ≠ gm) := hID
  have HG : Hid (MayG is) := hG
  have HL : Hid (is.length = n) := hl
  have HAw : Hid (∀ i, A i → i < w.heap.size) := hA
  have HU : Hid (0 ≤ S.U ∧ S.U ≤ 1000) := ⟨hR.2.2.1.1, by have := hR.2.2.1.2; omega⟩
  have HA : Hid (∀ u F2, VWA A u v dg j gm ep false S xs D cn dat F2 → Imgs u al is → Calls Tryz.prog 81 #[.pointer (some ⟨j, 0, none⟩), .slice al n cap, .bool false] u fun r w' => r = .returned (.tuple #[.int .i64 S.next, .int .i64 0]) ∧ J.JTo u F2 j dg { S with next := S.next + 1, U := S.U + (n + 1 : Nat), H := S.H - 0 } (xs ++ [((n + 1 : Nat) : Int)]) (J.grow D S.S.toNat ((S.T + S.U) % S.S).toNat (Rc.putL S.epoch.toNat S.next.toNat is) (n + 1)) w') := fun u F2 hu hi => by
    obtain ⟨m1, hv1, _⟩ := hu
    exact J.append_ok hv1.jd hJb hl hi hok hR (by rw [Rg.fr, if_pos hR, hS16, hH]; push_cast; omega) hlog hc (by rw [hS16]; decide) (by rw [hS16, hnb]; decide) hd1 hd2 hx
  have HRm : Hid (S.U + ((n : Int) + 1) ≤ S.S) := by
    show _ ≤ _
    rw [hS16]
    exact hroom
  clear h hA hV hm0 hI hIF hID hG hB hok hJb hR hS16 hH hroom hlog hc hnb hd1 hd2 hx hl
  generalize { S with next := S.next + 1, U := S.U + (n + 1 : Nat), H := S.H - 0 } = S' at HA ⊢
  generalize J.grow D S.S.toNat ((S.T + S.U) % S.S).toNat (Rc.putL S.epoch.toNat S.next.toNat is) (n + 1) = D' at HA ⊢
  generalize xs ++ [((n + 1 : Nat) : Int)] = ys at HA ⊢
  obtain ⟨nx, hnx⟩ : ∃ nx, nx = S.next := ⟨_, rfl⟩
  rw [← hnx] at HA ⊢
  clear hnx
  go_enter Tryz.func15, Tryz.ntmps15
  go_wp2_with fail
  refine Calls.mono cM ?_
  rintro r u1 ⟨rfl, b1⟩
  have V1 := HV.out.below b1
  obtain ⟨m1, hv1, _⟩ := id V1
  have cR := hasRoom_at hv1 (n : Int) (by omega) (by omega) HU.out HRm.out
  clear cM
  go_wp2_with fail
  refine Calls.mono cR ?_
  rintro r u2 ⟨rfl, b2⟩
  have V2 := V1.below b2
  have B2 := b1.trans (b2.mono b1.size)
  have cA := HA.out u2 F V2 (HI.out.below B2)
  obtain ⟨m2, hv2, _⟩ := id V2
  have c10 := (vcells hv2.box).c10
  clear cR hv1 hv2 V1
  go_wp2_with fail
  refine Calls.mono cA ?_
  rintro r u3 ⟨rfl, F', hj3, hF3, U3⟩
  have V3 := V2.turn hj3 hF3 U3
  have HU3 : Hid (Upd F w u3) := (Dk.Upd.of_below B2).trans U3 (fun i h => .inl h)
  have HF3 : Hid (∀ i, F' i → F i ∨ w.heap.size ≤ i) := fun i hi => by
    rcases hF3 i hi with h | h
    · exact .inl h
    · exact .inr (Nat.le_trans B2.size h)
  have HV3 : Hid (VWA A u3 v dg j gm ep false S' ys D' cn dat F') := V3
  have hvlt := HV.out.vlt
  have HVL : Hid (gm < w.heap.size) := hvlt.2
  clear cA c10 b1 b2 B2 V2 V3 hj3 hF3 U3 HA HU HRm hvlt
  go_wp2_with fail
  go_loopw [44] (fun i u => ∃ k : Nat, k ≤ n ∧ i = .int .i64 (k : Int) ∧ VWA A u v dg j gm ep false S' ys D' (cn + k) (dats dat (is.take k)) F' ∧ Upd (fun i => F i ∨ i = gm) w u) (fun i _ => n - (intOf i).toNat)
  case atStart => exact ⟨0, Nat.zero_le _, rfl, by simpa [dats] using HV3.out, ⟨HU3.out.os, HU3.out.tape, HU3.out.output, HU3.out.size, fun i hi hn => HU3.out.block i hi (fun hf => hn (.inl hf))⟩⟩
  case round =>
    obtain ⟨k, hk, rfl, hV, U⟩ := hrel
    have HVk : Hid (VWA A wr v dg j gm ep false S' ys D' (cn + k) (dats dat (is.take k)) F') := hV
    have HUk : Hid (Upd (fun i => F i ∨ i = gm) w wr) := U
    clear hV U HV3
    by_cases hlt : k < n
    · have hki : (k : Int) < (n : Int) := by omega
      have hkl : k < is.length := by rw [HL.out]; exact hlt
      obtain ⟨bb, o, rfl, hcc⟩ := HI.out (by omega)
      obtain ⟨z0, ax, cx, z1, _, _, hnil, hrd⟩ := hcc k hkl
      have hxF := HID.out k hkl bb o ax cx rfl z1
      have hbF := HIF.out ⟨bb, o, none⟩ rfl
      have h4 := HG.out.len _ (List.getElem_mem hkl)
      have hwf := HG.out.wf _ (List.getElem_mem hkl)
      have hnext : Hid (is.take (k + 1) = is.take k ++ [is[k]]) := List.take_succ_eq_append_getElem hkl
      rw [h4] at z1
      generalize (is[k]'hkl) = P at z0 z1 hrd h4 hwf hnext
      obtain ⟨pb, zs⟩ := P
      dsimp only at z0 z1 hrd h4 hwf
      obtain ⟨xb, xo, rfl, hxc⟩ := hrd (by omega)
      have hxF2 := hxF _ rfl
      dsimp only at hbF hxF2
      have lb := block_lt_of_cell z0
      have lx := block_lt_of_cell (hxc 0 (by omega))
      have x0 : wr.cell? ⟨bb, o + k * 2, none⟩ = some (.int .i64 pb) := (World.cell?_of_block (a := ⟨bb, o + k * 2, none⟩) (HUk.out.block bb lb (fun h => h.elim hbF.1 hbF.2))).trans z0
      have x1 : wr.cell? ⟨bb, o + k * 2 + 1, none⟩ = some (.slice (some ⟨xb, xo, none⟩) 4096 cx) := (World.cell?_of_block (a := ⟨bb, o + k * 2 + 1, none⟩) (HUk.out.block bb lb (fun h => h.elim hbF.1 hbF.2))).trans z1
      have hrw : Rd wr (some ⟨xb, xo, none⟩) zs := fun _ => ⟨xb, xo, rfl, fun j hj => (World.cell?_of_block (a := ⟨xb, xo + j, none⟩) (HUk.out.block xb lx (fun h => h.elim hxF2.1 hxF2.2))).trans (hxc j hj)⟩
      have bx := Box.new wr #[.int .i64 pb, .slice (some ⟨xb, xo, none⟩) 4096 cx] 89
      have bA := (Below.refl wr.heap.size wr).alloc (Nat.le_refl _) (.cells #[.int .i64 pb, .slice (some ⟨xb, xo, none⟩) 4096 cx] 89)
      have VA := HVk.out.below bA
      obtain ⟨wa, hwa⟩ : ∃ u, u = wr.alloc (.cells #[.int .i64 pb, .slice (some ⟨xb, xo, none⟩) 4096 cx] 89) := ⟨_, rfl⟩
      have HWa : Hid (wa = wr.alloc (.cells #[.int .i64 pb, .slice (some ⟨xb, xo, none⟩) 4096 cx] 89)) := hwa
      rw [← hwa] at bx bA VA
      have HBx : Hid (Box wa wr.heap.size #[.int .i64 pb, .slice (some ⟨xb, xo, none⟩) 4096 cx] 89) := bx
      have HVA : Hid (VWA A wa v dg j gm ep false S' ys D' (cn + k) (dats dat (is.take k)) F') := VA
      have HRA : Hid (Rd wa (some ⟨xb, xo, none⟩) zs) := hrw.below bA (Nat.le_refl _)
      have HBA : Hid (Below wr.heap.size wr wa) := bA
      have HS : Hid (∀ u, Below wa.heap.size wa u → u.cell? ⟨v, 11, none⟩ = some (.map (some gm)) ∧ u.cell? ⟨wr.heap.size, 0, none⟩ = some (.int .i64 pb) ∧ u.cell? ⟨wr.heap.size, 1, none⟩ = some (.slice (some ⟨xb, xo, none⟩) 4096 cx)) := fun u bu => by
        obtain ⟨m5, hv5, _⟩ := HVA.out.below bu
        have y := HBx.out.below bu
        have y0 := y.cell 0
        have y1 := y.cell 1
        simp only [List.getElem?_toArray, List.getElem?_cons_zero, List.getElem?_cons_succ] at y0 y1
        exact ⟨(vcells hv5.box).c11, y0, y1⟩
      have cC := Dk.clone_at cx 4096 ⟨xb, xo, none⟩ zs wa.drew h4 (by decide) (by decide) (HRA.out.below ((Below.refl _ wa).drew) (Nat.le_refl _))
      clear hcc z0 z1 lb lx hxc hrd hxF hxF2 hbF bx bA VA hwa hrw hnil
      go_upto_region 14 with fail
      rw [← HWa.out]
      refine wp_region_noPanic ?_
      refine wp_region_held_drew (S := fun u => u.cell? ⟨v, 11, none⟩ = some (.map (some gm)) ∧ u.cell? ⟨wr.heap.size, 0, none⟩ = some (.int .i64 pb) ∧ u.cell? ⟨wr.heap.size, 1, none⟩ = some (.slice (some ⟨xb, xo, none⟩) 4096 cx)) (by kernel_rfl) (HS.out _ ((Below.refl _ wa).drew)) (fun hHeld => ?_)
      refine wpAnyH_take (i := 0) (v := ?_) rfl (by kernel_rfl) (by kernel_rfl) (by kernel_rfl) (fun _ _ _ h => h) (Or.inl ⟨by rfl, ?_⟩) (by assumption) ?_
      rotate_left
      · intro w hSw
        go_simp
        with_reducible rfl
      simp only [Act.put, List.setIfInBounds_toArray, List.set_cons_zero, List.set_cons_succ, List.getElem_toArray, List.getElem_cons_zero]
      refine wpAnyH_take (i := 1) (v := ?_) rfl (by kernel_rfl) (by kernel_rfl) (by kernel_rfl) (fun _ _ _ h => h) (Or.inl ⟨by rfl, ?_⟩) (by assumption) ?_
      rotate_left
      · intro w hSw
        go_simp
        with_reducible rfl
      simp only [Act.put, List.setIfInBounds_toArray, List.set_cons_zero, List.set_cons_succ, List.getElem_toArray, List.getElem_cons_zero, List.getElem_cons_succ]
      refine wpAnyH_take (i := 2) (v := ?_) rfl (by kernel_rfl) (by kernel_rfl) (by kernel_rfl) (fun _ _ _ h => h) (Or.inl ⟨by rfl, ?_⟩) (by assumption) ?_
      rotate_left
      · intro w hSw
        go_simp
        with_reducible rfl
      simp only [Act.put, List.setIfInBounds_toArray, List.set_cons_zero, List.set_cons_succ, List.getElem_toArray, List.getElem_cons_zero, List.getElem_cons_succ]
      refine wpAnyH_take (i := 3) (v := ?_) rfl (by kernel_rfl) (by kernel_rfl) (by kernel_rfl) (fun _ _ _ h => h) (Or.inl ⟨by rfl, ?_⟩) (by assumption) ?_
      rotate_left
      · intro w hSw
        go_simp
        with_reducible rfl
      simp only [Act.put, List.setIfInBounds_toArray, List.set_cons_zero, List.set_cons_succ, List.getElem_toArray, List.getElem_cons_zero, List.getElem_cons_succ]
      refine wpAnyH_take (i := 4) (v := ?_) rfl (by kernel_rfl) (by kernel_rfl) (by kernel_rfl) (fun _ _ _ h => h) (Or.inl ⟨by rfl, ?_⟩) (by assumption) ?_
      rotate_left
      · intro w hSw
        go_simp
        with_reducible rfl
      simp only [Act.put, List.setIfInBounds_toArray, List.set_cons_zero, List.set_cons_succ, List.getElem_toArray, List.getElem_cons_zero, List.getElem_cons_succ]
      refine wpAnyH_take (i := 5) (v := ?_) rfl (by kernel_rfl) (by kernel_rfl) (by kernel_rfl) (fun _ _ _ h => h) (Or.inl ⟨by rfl, ?_⟩) (by assumption) ?_
      rotate_left
      · intro w hSw
        go_simp
        with_reducible rfl
      simp only [Act.put, List.setIfInBounds_toArray, List.set_cons_zero, List.set_cons_succ, List.getElem_toArray, List.getElem_cons_zero, List.getElem_cons_succ]
      refine wpAnyH_take (i := 6) (v := ?_) rfl (by kernel_rfl) (by kernel_rfl) (by kernel_rfl) (fun _ _ _ h => h) (Or.inl ⟨by rfl, ?_⟩) (by assumption) ?_
      rotate_left
      · intro w hSw
        go_simp
        with_reducible rfl
      simp only [Act.put, List.setIfInBounds_toArray, List.set_cons_zero, List.set_cons_succ, List.getElem_toArray, List.getElem_cons_zero, List.getElem_cons_succ]
      refine wpAnyH_take (i := 7) (v := ?_) rfl (by kernel_rfl) (by kernel_rfl) (by kernel_rfl) (fun _ _ _ h => h) (Or.inl ⟨by rfl, ?_⟩) (by assumption) ?_
      rotate_left
      · intro w hSw
        go_simp
        with_reducible rfl
      simp only [Act.put, List.setIfInBounds_toArray, List.set_cons_zero, List.set_cons_succ, List.getElem_toArray, List.getElem_cons_zero, List.getElem_cons_succ]
      refine wpAnyH_ready (rs := [8]) (by kernel_rfl) (by simp) ?_
      refine AllReadyH.cons rfl (fun K hK => ?_) AllReadyH.nil
      go_simp
      refine Calls.mono cC ?_
      rintro r u5 ⟨g5, c5, rfl, hg5, hr5, b5⟩
      have b5' : Below wa.heap.size wa u5 := ((Below.refl _ wa).drew).trans (b5.mono (Nat.le_refl _))
      have V5 := HVA.out.below b5'
      have hF5 : ¬ F' g5 := fun hf => by
        obtain ⟨m5, hv5, _⟩ := HVA.out
        have := hv5.jd.flt g5 hf
        have : wa.heap.size ≤ g5 := hg5
        omega
      have hA5 : ¬ A g5 := fun hf => by
        have h1 := HAw.out g5 hf
        have h2 := HUk.out.size
        have h3 := HBA.out.size
        have h4 : wa.heap.size ≤ g5 := hg5
        omega
      obtain ⟨u6, hrun, V6, gb⟩ := V5.put (by unfold maxLen; omega) pb hwf g5 c5 zs hr5 hF5 hA5 h4
      have HV6 : Hid (VWA A u6 v dg j gm ep false S' ys D' (cn + k + 1) (fun i => if i = pb then some zs else dats dat (is.take k) i) F') := V6
      have HU6 : Hid (Upd (fun i => F i ∨ i = gm) w u6) := by
        have B5 : Below wr.heap.size wr u5 := HBA.out.trans (b5'.mono HBA.out.size)
        exact (HUk.out.thenB B5).grown gb (fun i e => by cases e; exact .inl (.inr rfl))
      have HS2 : Hid (u6.cell? ⟨v, 11, none⟩ = some (.map (some gm)) ∧ u6.cell? ⟨wr.heap.size, 0, none⟩ = some (.int .i64 pb) ∧ u6.cell? ⟨wr.heap.size, 1, none⟩ = some (.slice (some ⟨xb, xo, none⟩) 4096 cx)) := by
        obtain ⟨m6, hv6, _⟩ := V6
        obtain ⟨m5, hv5, _⟩ := V5
        have y := box_map (HBx.out.below b5') hv5.map gb
        have y0 := y.cell 0
        have y1 := y.cell 1
        simp only [List.getElem?_toArray, List.getElem?_cons_zero, List.getElem?_cons_succ] at y0 y1
        exact ⟨(vcells hv6.box).c11, y0, y1⟩
      refine hK.out _ _ (HS.out _ b5') (fun hHeld => ?_)
      clear hK K V5 V6 gb
      refine wpAnyH_ready (rs := [9]) (by kernel_rfl) (by simp) ?_
      refine AllReadyH.cons rfl (fun K hK => ?_) AllReadyH.nil
      go_simp
      refine hK.out _ _ (HS2.out) (fun hHeld => ?_)
      clear hK K
      refine wpAnyH_done (by kernel_rfl) ?_ _
      refine NoPanic.normal ?_
      clear cC hrun HS HVk HUk HRA HBA HBx HVA HWa hr5 b5 b5' HS2
      go_wp2_with fail
      go_roundw
      case rel => exact ⟨k + 1, by omega, by push_cast; rfl, by rw [hnext.out, dats_snoc]; exact HV6.out, HU6.out⟩
      case measure => simp [intOf]; omega
    · have hkn : k = n := by omega
      subst hkn
      have HV6 : Hid (VWA A wr v dg j gm ep false S' ys D' (cn + k) (dats dat is) F') := by
        have := HVk.out
        rw [List.take_of_length_le (by rw [HL.out]; exact Nat.le_refl _)] at this
        exact this
      go_wp2_with fail
      exact bodyPost_ret (v := .tuple #[.int .i64 nx, .int .i64 0]) (by simp [results, Tryz.results15, go_sem]) rfl ⟨rfl, F', HV6.out, HF3.out, HUk.out⟩
end
end Go.Proofs.YtnldkpckojhbhaaGreat.V

/-
  rising of images of any length.
-/
namespace Go.Proofs.YtnldkpckojhbhaaGreat.H
open Go.RowKit Go.Maps
open Go.Proofs.YtnldkpckojhbhaaGreat.Rc (RowB owns_below owns_shape owns_block Box Imgs)

/-- what Clone answers: nothing, or a row of its own -/
def CloneR (B : Nat) (u : World) (a : Option Addr) (c : Nat) (xs : List UInt8) : Prop := xs.length ≤ c ∧ c ≤ 9223372036854775807 ∧ (a = none → c = 0) ∧ (xs = [] ∨ ∃ g, a = some ⟨g, 0, none⟩ ∧ B ≤ g ∧ RowB u g c xs)
theorem CloneR.rd {B : Nat} {u : World} {a : Option Addr} {c : Nat} {xs : List UInt8} (h : CloneR B u a c xs) : Rc.Rd u a xs := by
  rcases h.2.2.2 with e | ⟨g, rfl, _, r⟩
  · rw [e]; exact Rc.Rd.nil _ _
  · exact r.rd
theorem CloneR.mono {B : Nat} {u u' : World} {a : Option Addr} {c : Nat} {xs : List UInt8} (h : CloneR B u a c xs) (hk : ∀ g cur, Box u g cur 5 → u'.heap[g]? = u.heap[g]?) : CloneR B u' a c xs := by
  refine ⟨h.1, h.2.1, h.2.2.1, h.2.2.2.imp id fun ⟨g, e, hB, r⟩ => ⟨g, e, hB, r.same ?_⟩⟩
  obtain ⟨cur, hb, _⟩ := id r
  exact hk g cur hb
theorem clone_any (cap n : Nat) (a : Option Addr) (xs : List UInt8) (w : World) (hl : xs.length = n) (hn : n ≤ 140737488355328) (hr : Rc.Rd w a xs) (hnil : a = none → cap = 0) :
    Calls Tryz.prog 83 #[.slice a n cap] w fun e w' => ∃ a' c', e = .returned (.slice a' n c') ∧ CloneR w.heap.size w' a' c' xs ∧ Below w.heap.size w w' := by
  cases a with
  | none =>
    have h0 : n = 0 := by
      rcases Nat.eq_zero_or_pos n with h | h
      · exact h
      · obtain ⟨_, _, e, _⟩ := hr (by omega)
        cases e
    subst h0
    have hx : xs = [] := List.eq_nil_of_length_eq_zero hl
    have hc := hnil rfl
    subst hc hx
    clear hl hr hnil
    have hq : ∀ u : World, (binOp .eql 37 (.slice none 0 0) (.slice none 0 0)).run Tryz.prog u = .ok (.bool true) u := fun u => Lib.run_eql_slice_nil u 37 5 none 0 0 0 0 Tryz.underlying37
    go_enter Tryz.func83, Tryz.ntmps83
    go_wp2_with fail
    go_ret
    exact ⟨none, 0, rfl, ⟨Nat.le_refl _, by decide, fun _ => rfl, .inl rfl⟩, Below.refl _ _⟩
  | some ad =>
    obtain ⟨i0, hi, hz0, hz1, hz2⟩ := info_parts Rc.info5
    have hq : ∀ u : World, (binOp .eql 37 (.slice (some ad) n cap) (.slice none 0 0)).run Tryz.prog u = .ok (.bool false) u := fun u => Lib.run_eql_slice_nil u 37 5 (some ad) n cap 0 0 Tryz.underlying37
    have o1 : (w.alloc (.cells #[] 5)).ownsRow w.heap.size 5 1 (.slice (some ⟨w.heap.size, 0, none⟩) 0 0) 0 [] := ⟨rfl, .inr ⟨w.heap.size, 0, #[], rfl, Nat.le_refl _, heap_alloc_new w _, Nat.le_refl _, by simp [maxLen], rfl, rfl⟩⟩
    have hr1 := hr.below ((Below.refl w.heap.size w).alloc (Nat.le_refl _) (.cells #[] 5)) (Nat.le_refl _)
    have B1 := (Below.refl w.heap.size w).alloc (Nat.le_refl _) (.cells #[] 5)
    go_enter Tryz.func83, Tryz.ntmps83
    go_wp2_with (at_builtin; refine Rc.wpList_append_bytes rfl _ _ rfl w.heap.size _ 0 [] rfl o1 (some ad) n cap xs rfl hl hr1 (fun h => by cases h) (by omega) (by simp) ?_)
    intro v' w1 hown hgrow
    have hown1 : w1.ownsRow w.heap.size 5 1 v' n (Rc.bcs xs) := by simpa using hown
    have hb : Below w.heap.size w w1 := B1.grown hgrow (by simp) (fun k hk => by simp [Value.ownBlock] at hk; omega)
    have key : ∃ a' c', v' = .slice a' n c' ∧ CloneR w.heap.size w1 a' c' xs := by
      rcases Nat.eq_zero_or_pos n with h0 | h0
      · have hx : xs = [] := List.eq_nil_of_length_eq_zero (by omega)
        rcases hown1.2 with ⟨e1, _⟩ | ⟨g, c, cur, e1, _, _, h1, h2, _⟩
        · exact ⟨none, 0, by rw [e1, h0], ⟨by rw [hx]; exact Nat.le_refl _, by decide, fun _ => rfl, .inl hx⟩⟩
        · exact ⟨some ⟨g, 0, none⟩, c, e1, ⟨by rw [hx]; exact Nat.zero_le _, by unfold maxLen at h2; omega, fun h => (by cases h), .inl hx⟩⟩
      · obtain ⟨h, c, rfl, hh, hrow⟩ := Rc.RowB.owns hown1 h0
        obtain ⟨_, _, q1, q2, _⟩ := id hrow
        exact ⟨some ⟨h, 0, none⟩, c, rfl, ⟨q1, by unfold maxLen at q2; omega, fun h => (by cases h), .inr ⟨h, rfl, hh, hrow⟩⟩⟩
    obtain ⟨a', c', rfl, hC⟩ := key
    have HC : Hid (CloneR w.heap.size w1 a' c' xs) := hC
    clear hgrow hown hown1 o1 B1 hr1 hC
    go_wp2
    go_ret
    exact ⟨a', c', rfl, HC.out, hb⟩

/-- the cells of images -/
def imC (L : List ImD) : List Value := L.flatMap fun p => [.int .i64 p.1.1, .slice p.1.2.1 p.1.2.2.1 p.1.2.2.2]
theorem imC_at (L : List ImD) (i : Nat) (h : i < L.length) : (imC L)[i * 2]? = some (.int .i64 L[i].1.1) ∧ (imC L)[i * 2 + 1]? = some (.slice L[i].1.2.1 L[i].1.2.2.1 L[i].1.2.2.2) := by
  induction L generalizing i with
  | nil => simp at h
  | cons p l ih =>
    cases i with
    | zero => simp [imC]
    | succ i =>
      have := ih i (by simpa using h)
      simp only [imC, List.flatMap_cons, List.getElem_cons_succ] at this ⊢
      rw [show (i + 1) * 2 = i * 2 + 2 by omega, show i * 2 + 2 + 1 = i * 2 + 1 + 2 by omega]
      simpa using this
/-- images, each datum a clone -/
def ClonesR (B : Nat) (u : World) (L : List ImD) : Prop := ∀ p ∈ L, CloneR B u p.1.2.1 p.1.2.2.2 p.2 ∧ p.2.length = p.1.2.2.1
theorem clones_imgs {B B' n c : Nat} {u : World} {a : Option Addr} {L : List ImD} (ho : u.ownsRow B 89 2 (.slice a n c) n (imC L)) (hl : L.length = n) (hC : ClonesR B' u L) : Imgs u a (pl L) := fun hp => by
  have hp2 : 0 < L.length := by simpa [pl] using hp
  obtain ⟨g, rfl, _, _, hc⟩ := owns_cells ho (by omega)
  refine ⟨g, 0, rfl, fun j hj => ?_⟩
  have hj : j < L.length := by simpa [pl] using hj
  obtain ⟨e1, e2⟩ := imC_at L j hj
  obtain ⟨r1, r2⟩ := hC L[j] (List.getElem_mem hj)
  simp only [pl, List.getElem_map]
  refine ⟨?_, L[j].1.2.1, L[j].1.2.2.2, ?_, r1.1, r1.2.1, r1.2.2.1, r1.rd⟩
  · show u.cell? ⟨g, 0 + j * 2, none⟩ = _
    rw [Nat.zero_add, hc _ (by omega), e1]
  · show u.cell? ⟨g, 0 + j * 2 + 1, none⟩ = some (.slice _ L[j].2.length _)
    rw [Nat.zero_add, hc _ (by omega), e2, r2]

/-- what m holds: images -/
def AnyIm (w : World) (m : Int → Option Value) (dat : Int → List UInt8) : Prop := ∀ k, (m k).isSome = true → ∃ a n c, m k = some (.agg #[.int .i64 k, .slice a n c]) ∧ Rc.Rd w a (dat k) ∧ (dat k).length = n ∧ n ≤ 140737488355328 ∧ (a = none → c = 0)

set_option maxRecDepth 100000 in
set_option maxHeartbeats 4000000 in
theorem risingA_at {w : World} {b n : Nat} {m : Int → Option Value} {dat : Int → List UInt8} (h : MapI w b n m) (hn : n ≤ 1000) (hw : AnyIm w m dat) :
    Calls Tryz.prog 208 #[.map (some b)] w fun r w' => ∃ a' c' ks L, r = .returned (.slice a' (List.length ks) c') ∧ Rising m ks ∧ ks.length ≤ n ∧ w'.ownsRow w.heap.size 89 2 (.slice a' ks.length c') ks.length (imC L) ∧ ClonesR w.heap.size w' L ∧ pl L = ks.map (fun k => (k, dat k)) ∧ Below w.heap.size w w' := by
  obtain ⟨i0, hi, hz0, hz1, hz2⟩ := info_parts Rc.info38
  have cK := keys_at (some b) w
  have cS := sorted_at h (by omega : n ≤ 100000)
  have HW : Hid (AnyIm w m dat) := hw
  have HM : Hid (MapI w b n m) := h
  clear h hw
  go_enter Tryz.func208, Tryz.ntmps208
  go_wp2_with fail
  refine Calls.mono cK ?_
  rintro r u1 ⟨rfl, rfl⟩
  clear cK
  go_wp2_with fail
  refine Calls.mono cS ?_
  rintro r u2 ⟨v, ks, rfl, hR, hkn, hrow, b2⟩
  have HR : Hid (Rising m ks) := hR
  have HRow : Hid (u2.ownsRow w.heap.size 3 1 v ks.length (ks.map encZ)) := hrow
  obtain ⟨ak, ck, rfl⟩ := owns_shape hrow
  obtain ⟨N, hN⟩ : ∃ N, N = ks.length := ⟨_, rfl⟩
  have HN : Hid (N = ks.length) := hN
  rw [← hN] at HRow hkn ⊢
  clear hN hrow hR cS
  go_wp2_with fail
  go_loopw [3, 10] (fun v i u => ∃ (k : Nat) (L : List ImD), k ≤ N ∧ i = .int .i64 (k : Int) ∧ u.ownsRow u2.heap.size 89 2 v k (imC L) ∧ ClonesR w.heap.size u L ∧ pl L = (ks.take k).map (fun k => (k, dat k)) ∧ Below u2.heap.size u2 u) (fun _ i _ => N - (intOf i).toNat)
  case atStart => exact ⟨0, [], Nat.zero_le _, rfl, World.ownsRow_nil _ _ _ _, fun p hp => (by cases hp), by simp [pl], Below.refl _ _⟩
  case round =>
    obtain ⟨k, L, hk, rfl, hown, hJ, hps, B⟩ := hrel
    have HPS : Hid (pl L = (ks.take k).map (fun k => (k, dat k))) := hps
    have HJ : Hid (ClonesR w.heap.size wr L) := hJ
    have HOWN : Hid (wr.ownsRow u2.heap.size 89 2 u3 k (imC L)) := hown
    clear hps hJ
    obtain ⟨av, cv, rfl⟩ := owns_shape hown
    by_cases hlt : k < N
    · have hki : (k : Int) < (N : Int) := by omega
      have hkl : k < ks.length := by rw [← HN.out]; exact hlt
      obtain ⟨kg, rfl, _, _, hc⟩ := owns_cells HRow.out (by omega)
      obtain ⟨K, hK⟩ : ∃ K, K = ks[k] := ⟨_, rfl⟩
      have ck0 : u2.cell? ⟨kg, k, none⟩ = some (.int .i64 K) := by
        rw [hc k (by omega), hK]
        simp [hkl]
      have ckw : wr.cell? ⟨kg, k, none⟩ = some (.int .i64 K) := (B.cell (p := ⟨kg, k, none⟩) (block_lt_of_cell ck0)).trans ck0
      obtain ⟨da, dn, dc, em, rd, hl, hdn, hdz⟩ := HW.out K ((HR.out.2 K).1 (by rw [hK]; exact List.getElem_mem hkl))
      have Bw : Below w.heap.size w wr := b2.trans (B.mono b2.size)
      have lk := (HM.out.below Bw).look K _ em
      have cC := clone_any dc dn da (dat K) wr hl hdn (rd.below Bw (Nat.le_refl _)) hdz
      have hstep : Hid ((ks.take (k + 1)).map (fun k => (k, dat k)) = (ks.take k).map (fun k => (k, dat k)) ++ [(K, dat K)]) := by
        show _ = _
        rw [List.take_succ_eq_append_getElem hkl, List.map_append, hK]; rfl
      have hml : Hid ((dat K).length = dn) := hl
      generalize dat K = ml at cC hstep hml
      clear hown hc ck0 hK rd hl em
      have fd : (Instr.field 89 (.agg #[.int .i64 K, .slice da dn dc]) 1).run Tryz.prog wr = .ok (.slice da dn dc) wr := by kernel_rfl
      go_wp2_with fail
      refine Calls.mono cC ?_
      rintro r W ⟨ha, cg, rfl, hgl, bW⟩
      have z0 : w.heap.size ≤ wr.heap.size := Bw.size
      have J2 : Hid (ClonesR w.heap.size W (L ++ [((K, ha, dn, cg), ml)])) := fun p hp => by
        rcases List.mem_append.1 hp with hp | hp
        · exact ⟨(HJ.out p hp).1.mono (fun g _ q => bW.block g q.lt), (HJ.out p hp).2⟩
        · simp at hp
          subst hp
          exact ⟨⟨hgl.1, hgl.2.1, hgl.2.2.1, hgl.2.2.2.imp id fun ⟨g, e, hB, r⟩ => ⟨g, e, Nat.le_trans z0 hB, r⟩⟩, hml.out⟩
      have O2 : Hid (W.ownsRow u2.heap.size 89 2 (.slice av k cv) k (imC L)) := owns_below HOWN.out bW
      have B1 := B.trans (bW.mono B.size)
      have own1 := (O2.out).alloc (.cells #[.int .i64 K, .slice ha dn cg] 89)
      have z1 := B1.size
      have z2 := b2.size
      clear bW cC B fd lk ckw hgl
      go_wp2_with (at_builtin; refine wpList_append_own _ rfl _ _ 29 rfl u2.heap.size 89 i0 _ 2 32 Tryz.underlying29 hi hz0 hz1 hz2 rfl (by decide) _ k _ rfl own1 ⟨W.heap.size, 0, none⟩ 1 1 [.int .i64 K, .slice ha dn cg] rfl rfl ?c1 ?c2 ?c3 ?c4 ?c5 ?_)
      case c1 => exact World.news_of_block (cs := #[.int .i64 K, .slice ha dn cg]) (t := 89) (fr := (0, 0)) (heap_alloc_new W _)
      case c2 => intro u hu; simp at hu; rcases hu with rfl | rfl <;> rfl
      case c3 => unfold maxLen; omega
      case c4 => omega
      case c5 => simp; omega
      · intro v' w1 hown1 hgrow _
        have al := (Below.refl _ W).alloc (Nat.le_refl _) (.cells #[.int .i64 K, .slice ha dn cg] 89)
        have B2 : Below u2.heap.size u2 w1 := (B1.alloc z1 _).grown hgrow (by simp; omega) (fun j e => (owns_block O2.out j e).1)
        have J3 : ClonesR w.heap.size w1 (L ++ [((K, ha, dn, cg), ml)]) := fun p hp => ⟨(((J2.out p hp).1.mono (fun g _ q => al.block g q.lt))).mono (fun g cur q => hgrow.block g q.lt (fun e => by
          obtain ⟨_, cur', hb'⟩ := owns_block own1 g e.symm
          exact Box.ne q hb' (by decide) rfl)), (J2.out p hp).2⟩
        clear hgrow own1 al
        go_wp2_with fail
        go_roundw
        case rel => exact ⟨k + 1, _, by omega, by push_cast; rfl, by simpa [imC] using hown1, J3, by rw [show pl (L ++ [((K, ha, dn, cg), ml)]) = pl L ++ [(K, ml)] by simp [pl], HPS.out, hstep.out], B2⟩
        case measure => simp [intOf]; omega
    · have hke : k = N := by omega
      have hke2 : ks.take k = ks := by rw [hke, HN.out, List.take_length]
      rw [hke2] at HPS
      rw [hke] at HOWN ⊢
      clear hke hlt hk hown hke2
      go_wp2_with fail
      go_ret
      refine ⟨av, cv, ks, L, by rw [HN.out]; rfl, HR.out, by rw [← HN.out]; exact hkn, ?_, HJ.out, HPS.out, b2.trans (B.mono b2.size)⟩
      rw [← HN.out]
      exact owns_le HOWN.out b2.size
end Go.Proofs.YtnldkpckojhbhaaGreat.H

/-
  Home of a layout that is none.
-/
namespace Go.Proofs.YtnldkpckojhbhaaGreat.H
open Go.RowKit
open Go.Proofs.YtnldkpckojhbhaaGreat.Dk (Box)

theorem home_bad (w : World) (l0 l1 l2 l3 l4 l5 l6 : Int) (v : Value) (h : ¬(64 ≤ l0 ∧ l0 ≤ 512)) :
    Calls Tryz.prog 161 #[.agg #[.int .i64 l0, .int .i64 l1, .int .i64 l2, .int .i64 l3, .int .i64 l4, .int .i64 l5, .int .i64 l6], v] w fun r w' => r = .returned (.tuple #[.slice none 0 0, .int .i64 2]) ∧ Below w.heap.size w w' := by
  have al := (Below.refl w.heap.size w).alloc (Nat.le_refl _) (.cells #[.int .i64 l0, .int .i64 l1, .int .i64 l2, .int .i64 l3, .int .i64 l4, .int .i64 l5, .int .i64 l6] 57)
  have x := Box.new w #[.int .i64 l0, .int .i64 l1, .int .i64 l2, .int .i64 l3, .int .i64 l4, .int .i64 l5, .int .i64 l6] 57
  have c0 := x.cell 0
  simp only [List.getElem?_toArray, List.getElem?_cons_zero] at c0
  have cO := La.of_bad l0 (w.alloc (.cells #[.int .i64 l0, .int .i64 l1, .int .i64 l2, .int .i64 l3, .int .i64 l4, .int .i64 l5, .int .i64 l6] 57)) h
  unfold La.noneA at cO
  clear h x
  go_enter Tryz.func161, Tryz.ntmps161
  go_wp2_with fail
  refine Calls.mono cO ?_
  rintro r u1 ⟨rfl, b1⟩
  have B1 := al.trans (b1.mono al.size)
  have B2 := B1.alloc B1.size (.cells #[.int .i64 0, .int .i64 0, .int .i64 0, .int .i64 0, .int .i64 0, .int .i64 0, .int .i64 0] 57)
  clear cO b1 c0 al
  go_wp2_with fail
  exact bodyPost_ret (v := .tuple #[.slice none 0 0, .int .i64 2]) (by simp [results, Tryz.results161, go_sem]) rfl ⟨rfl, B2⟩
end Go.Proofs.YtnldkpckojhbhaaGreat.H

/-
  Home of any layout, of images of any length.
-/
namespace Go.Proofs.YtnldkpckojhbhaaGreat.H
open Go.RowKit Go.Maps
open Go.Proofs.YtnldkpckojhbhaaGreat.Rc (Imgs)
open Go.Proofs.YtnldkpckojhbhaaGreat.Dk (Box)

/-- images of any length, in memory -/
def AnyD (w : World) (L : List ImD) : Prop := ∀ p ∈ L, Rc.Rd w p.1.2.1 p.2 ∧ p.2.length = p.1.2.2.1 ∧ p.1.2.2.1 ≤ 140737488355328 ∧ (p.1.2.1 = none → p.1.2.2.2 = 0)
theorem anyIm_of {w : World} {L : List ImD} (h : AnyD w L) : AnyIm w (mOf (L.map (·.1))) (datD (pl L)) := fun k hk => by
  rcases last_both L k with ⟨p, hp, h1, h2, h3⟩ | ⟨h1, _⟩
  · obtain ⟨r1, r2, r3, r4⟩ := h p hp
    obtain ⟨⟨pb, pa, pn, pc⟩, xs⟩ := p
    dsimp only at h1 h2 h3 r1 r2 r3 r4
    subst h1
    have ed : datD (pl L) pb = xs := by rw [datD, h3]; rfl
    exact ⟨pa, pn, pc, h2, by rw [ed]; exact r1, by rw [ed]; exact r2, r3, r4⟩
  · rw [h1] at hk
    cases hk
/-- ks: the blocks of L, rising -/
def KeysOf (L : List (Int × List UInt8)) (ks : List Int) : Prop := ks.Pairwise (· < ·) ∧ ∀ x, x ∈ ks ↔ (lastD L x).isSome = true
theorem homeA_at (nb : Nat) (h64 : 64 ≤ nb) (h512 : nb ≤ 512) (w : World) (ga : Option Addr) (gn gc : Nat) (gs : List Gr) (L : List ImD) (hgn : gs.length = gn) (hgm : gn ≤ 1000000) (hG : CellsG w ga gs) (hL : allIs gs = L.map (·.1)) (hD : AnyD w L) :
    Calls Tryz.prog 161 #[.agg (La.layA nb), .slice ga gn gc] w fun r w' =>
      ((L.all fun p => rightIm (2 + (La.lgs nb : Int)) (nb - 1) p.1) = true → ∃ a c ks, r = .returned (.tuple #[.slice a (List.length ks) c, .int .i64 0]) ∧ KeysOf (pl L) ks ∧ ks.length ≤ 512 ∧ Imgs w' a (ks.map fun k => (k, datD (pl L) k))) ∧
      ((L.all fun p => rightIm (2 + (La.lgs nb : Int)) (nb - 1) p.1) = false → r = .returned (.tuple #[.slice none 0 0, .int .i64 90])) ∧ Below w.heap.size w w' := by
  have hall : (allIs gs).all (rightIm (2 + (La.lgs nb : Int)) (nb - 1)) = L.all fun p => rightIm (2 + (La.lgs nb : Int)) (nb - 1) p.1 := by
    rw [hL, List.all_map]
    rfl
  have c := home_in w nb 2 (La.lgs nb) (2 + La.lgs nb) (3 + La.lgs nb) ((nb : Int) / 16) (3 + (La.lgs nb : Int) + (nb : Int) / 16) ga gn gc gs (fun v w' => ∃ a c ks, v = .slice a (List.length ks) c ∧ KeysOf (pl L) ks ∧ ks.length ≤ 512 ∧ Imgs w' a (ks.map fun k => (k, datD (pl L) k))) rfl h64 h512 (by omega) hgn hgm hG (fun _ u gm hm hb => by
    rw [hL] at hm
    refine (risingA_at hm (by decide) (anyIm_of (fun p hp => ?_))).mono ?_
    · obtain ⟨h1, h2, h3⟩ := hD p hp
      exact ⟨h1.below hb (Nat.le_refl _), h2, h3⟩
    · rintro r w' ⟨a', c', ks, M, rfl, h1, h2, h3, h4, h5, h6⟩
      refine ⟨_, rfl, ⟨a', c', ks, rfl, rising_last h1, h2, ?_⟩, h6.mono hb.size⟩
      have hl : M.length = ks.length := by
        have := congrArg List.length h5
        simpa [pl] using this
      have := clones_imgs h3 hl h4
      rw [h5] at this
      exact this)
  refine c.mono ?_
  rintro r w' ⟨h1, h2, h3⟩
  rw [hall] at h1 h2
  refine ⟨fun h => ?_, h2, h3⟩
  obtain ⟨v, rfl, a, c, ks, rfl, hh⟩ := h1 h
  exact ⟨a, c, ks, rfl, hh⟩

/-- a layout of as many blocks, but another one -/
theorem home_other (nb : Nat) (h64 : 64 ≤ nb) (h512 : nb ≤ 512) (w : World) (l1 l2 l3 l4 l5 l6 : Int) (v : Value) (hne : #[Value.int .i64 nb, .int .i64 l1, .int .i64 l2, .int .i64 l3, .int .i64 l4, .int .i64 l5, .int .i64 l6] ≠ La.layA nb) :
    Calls Tryz.prog 161 #[.agg #[.int .i64 nb, .int .i64 l1, .int .i64 l2, .int .i64 l3, .int .i64 l4, .int .i64 l5, .int .i64 l6], v] w fun r w' => r = .returned (.tuple #[.slice none 0 0, .int .i64 2]) ∧ Below w.heap.size w w' := by
  have al := (Below.refl w.heap.size w).alloc (Nat.le_refl _) (.cells #[.int .i64 nb, .int .i64 l1, .int .i64 l2, .int .i64 l3, .int .i64 l4, .int .i64 l5, .int .i64 l6] 57)
  have x := Box.new w #[.int .i64 nb, .int .i64 l1, .int .i64 l2, .int .i64 l3, .int .i64 l4, .int .i64 l5, .int .i64 l6] 57
  have c0 := x.cell 0
  simp only [List.getElem?_toArray, List.getElem?_cons_zero] at c0
  have cO := La.of_good nb (w.alloc (.cells #[.int .i64 nb, .int .i64 l1, .int .i64 l2, .int .i64 l3, .int .i64 l4, .int .i64 l5, .int .i64 l6] 57)) h64 h512
  have hq : ∀ u, (binOp .neq 57 (.agg #[.int .i64 nb, .int .i64 l1, .int .i64 l2, .int .i64 l3, .int .i64 l4, .int .i64 l5, .int .i64 l6]) (.agg (La.layA nb))).run Tryz.prog u = .ok (.bool true) u := fun u => by
    unfold La.layA
    rw [neq7]
    have : La.same7 nb l1 l2 l3 l4 l5 l6 nb 2 (La.lgs nb) (2 + (La.lgs nb : Int)) (3 + (La.lgs nb : Int)) ((nb : Int) / 16) (3 + (La.lgs nb : Int) + (nb : Int) / 16) = false := by
      cases h : La.same7 nb l1 l2 l3 l4 l5 l6 nb 2 (La.lgs nb) (2 + (La.lgs nb : Int)) (3 + (La.lgs nb : Int)) ((nb : Int) / 16) (3 + (La.lgs nb : Int) + (nb : Int) / 16) with
      | false => rfl
      | true =>
        simp only [La.same7, decide_eq_true_eq] at h
        obtain ⟨_, rfl, rfl, rfl, rfl, rfl, rfl⟩ := h
        exact absurd rfl hne
    rw [this]
    rfl
  unfold La.layA at cO hq
  clear hne
  generalize (2 + (La.lgs nb : Int)) = m3 at cO hq
  generalize (3 + (La.lgs nb : Int) + (nb : Int) / 16) = m6 at cO hq
  generalize (3 + (La.lgs nb : Int)) = m4 at cO hq
  generalize ((nb : Int) / 16) = m5 at cO hq
  generalize (La.lgs nb : Int) = m2 at cO hq
  go_enter Tryz.func161, Tryz.ntmps161
  go_wp2_with fail
  refine Calls.mono cO ?_
  rintro r u1 ⟨rfl, b1⟩
  have B1 := al.trans (b1.mono al.size)
  have x1 := (x.below b1).alloc (.cells #[.int .i64 nb, .int .i64 2, .int .i64 m2, .int .i64 m3, .int .i64 m4, .int .i64 m5, .int .i64 m6] 57)
  have y1 := Box.new u1 #[.int .i64 nb, .int .i64 2, .int .i64 m2, .int .i64 m3, .int .i64 m4, .int .i64 m5, .int .i64 m6] 57
  have B2 := B1.alloc B1.size (.cells #[.int .i64 nb, .int .i64 2, .int .i64 m2, .int .i64 m3, .int .i64 m4, .int .i64 m5, .int .i64 m6] 57)
  have c0 := x1.cell 0
  have c1 := x1.cell 1
  have c2 := x1.cell 2
  have c3 := x1.cell 3
  have c4 := x1.cell 4
  have c5 := x1.cell 5
  have c6 := x1.cell 6
  have d0 := y1.cell 0
  have d1 := y1.cell 1
  have d2 := y1.cell 2
  have d3 := y1.cell 3
  have d4 := y1.cell 4
  have d5 := y1.cell 5
  have d6 := y1.cell 6
  simp only [List.getElem?_toArray, List.getElem?_cons_zero, List.getElem?_cons_succ] at c0 c1 c2 c3 c4 c5 c6 d0 d1 d2 d3 d4 d5 d6
  clear cO b1 x al x1 y1 B1
  go_wp2_with fail
  exact bodyPost_ret (v := .tuple #[.slice none 0 0, .int .i64 2]) (by simp [results, Tryz.results161, go_sem]) rfl ⟨rfl, B2⟩
end Go.Proofs.YtnldkpckojhbhaaGreat.H
