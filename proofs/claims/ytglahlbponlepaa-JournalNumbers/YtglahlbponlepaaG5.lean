/-
  RcMix, RcSame, RcLow, RcCopyL, RcPutL, RcByte, RcAny, RcMade, JImg, DkBytes, DkPure, DkMem, DkSmall, JSmall, JNone, JNone2, DkLoads, DkPower: put together.
-/
import Derived.Test.YtglahlbponlepaaG4
import Derived.BigQuiet
import Derived.Deep.QuietTactic
import Derived.Deep.RegionHeld3
import Derived.Deep.AppendLies
import Derived.Test.YtglahlbponlepaaRows
import Derived.WalkKit
import Derived.WalkSpells
import Derived.WalkLawsBesides
import Derived.Laws.BytesArg
import Derived.Laws.AppendOwnNone
import Derived.ProofKit
import Derived.Laws.CopyOwn
import Derived.LaidEqlPtr
import Derived.Orders
import Derived.RegionTactic
/-
  A group is taken only if all of it was written: no walk here.
-/
namespace Go.Proofs.Ytglahlbponlepaa.Rc

theorem mark_inj {e s e' s' : Nat} (he : e ≤ 8388608) (hs : s ≤ 549755813888) (he' : e' ≤ 8388608) (hs' : s' ≤ 549755813888) (h : mark e s = mark e' s') : e = e' ∧ s = s' := by
  have h1 := congrArg beNat h
  rw [be_mark he hs, be_mark he' hs'] at h1
  unfold stampN at h1
  omega
/-- no noughts bear a stamp -/
theorem mark_ne {e s : Nat} (he : 1 ≤ e) (he2 : e ≤ 8388608) (hs : s ≤ 549755813888) : mark e s ≠ List.replicate 8 0 := fun h => by
  have h1 := congrArg beNat h
  rw [be_mark he2 hs] at h1
  have h2 : beNat (List.replicate 8 0) = 0 := by decide
  rw [h2] at h1
  unfold stampN at h1
  omega

/-- every sector of a group bears the stamp that it says -/
theorem grp_marks {ls : List (List UInt8)} (h : isGrp ls) (b : Nat) (hb : b < ls.length) (x : Fin 8) : (sec ls[b] x.val).take 8 = mark (saidE (ls[0]?.getD [])) (saidS (ls[0]?.getD [])) := by
  obtain ⟨h0, hh, hn, hs⟩ := h
  cases b with
  | zero =>
    have e0 : ls[0] = ls[0]?.getD [] := by simp [h0]
    rw [e0]
    obtain ⟨h1, h2, h3⟩ := hh
    have hlen : ∀ y ∈ saidEs (ls[0]?.getD []), y.2.length = 64 := by
      intro y hy
      unfold saidEs at hy
      split at hy
      · unfold entsOf at hy
        obtain ⟨i, hi, rfl⟩ := List.mem_map.1 hy
        have hi' : i < cntOf (bodyX (ls[0]?.getD [])) := by simpa using hi
        have hbl := bodyX_length _ h1
        unfold entOf
        show ((List.drop (8 + i * 66) _).take 64).length = 64
        rw [List.length_take, List.length_drop, hbl]
        omega
      · cases hy
    have hbd : (bodyB (saidEs (ls[0]?.getD []))).length = 4032 := bodyB_length _ hlen (by have := h2.2.1; simpa using this.2)
    have h4 := sec_head (e := saidE (ls[0]?.getD [])) (s := saidS (ls[0]?.getD [])) hbd x
    rw [← h3] at h4
    rw [h4]
    exact List.take_left' (mark_length _ _)
  | succ j =>
    have hj : j < (saidEs (ls[0]?.getD [])).length := by omega
    have h1 := hs j hj
    have e1 : ls[j + 1]?.getD [] = ls[j + 1] := by simp [hb]
    rw [e1] at h1
    unfold stampedB allMarked at h1
    simp only [Bool.and_eq_true, List.all_eq_true] at h1
    have h2 := h1.2.2 x (List.mem_finRange x)
    simpa using h2
theorem grp_ok {ls : List (List UInt8)} (h : isGrp ls) : okStamp (saidE (ls[0]?.getD [])) (saidS (ls[0]?.getD [])) = true := h.2.1.2.1.1
theorem grp_len {ls : List (List UInt8)} (h : isGrp ls) (b : Nat) (hb : b < ls.length) : ls[b].length = 4096 := by
  obtain ⟨h0, hh, hn, hs⟩ := h
  cases b with
  | zero =>
    have e0 : ls[0] = ls[0]?.getD [] := by simp [h0]
    rw [e0]
    exact hh.1
  | succ j =>
    have h1 := hs j (by omega)
    have e1 : ls[j + 1]?.getD [] = ls[j + 1] := by simp [hb]
    rw [e1] at h1
    unfold stampedB at h1
    simp only [Bool.and_eq_true, decide_eq_true_eq] at h1
    exact h1.1

section
variable {e s e' s' : Nat} {is is' : List (Int × List UInt8)}
theorem put_marks (hok : okGroup e s is) (b : Nat) (hb : b < (putL e s is).length) (x : Fin 8) : (sec (putL e s is)[b] x.val).take 8 = mark e s := by
  have h := grp_marks (put_grp hok) b hb x
  have e0 : (putL e s is)[0]?.getD [] = headB e s (entL (mark e s) is) := rfl
  rw [e0, (put_said hok).1, (put_said hok).2.1] at h
  exact h

/-- where one sector is another group's, or was never written, only the other group whole is a group -/
theorem mix_grp (hok : okGroup e s is) (hok' : okGroup e' s' is') (hne : ¬(e = e' ∧ s = s')) (X : List (List UInt8)) (hl : X.length = (putL e s is).length)
    (hsec : ∀ b (h : b < X.length) (x : Fin 8), sec X[b] x.val = sec ((putL e s is)[b]'(by omega)) x.val ∨ (∃ h' : b < (putL e' s' is').length, sec X[b] x.val = sec ((putL e' s' is')[b]) x.val) ∨ (sec X[b] x.val).take 8 = List.replicate 8 0)
    (hsome : ∃ b, ∃ h : b < X.length, ∃ x : Fin 8, (∃ h' : b < (putL e' s' is').length, sec X[b] x.val = sec ((putL e' s' is')[b]) x.val) ∨ (sec X[b] x.val).take 8 = List.replicate 8 0)
    (hg : isGrp X) : X = putL e' s' is' := by
  have st := (okStamp_iff _ _).1 (grp_ok hg)
  have st1 := (okStamp_iff _ _).1 hok.1.1
  have st2 := (okStamp_iff _ _).1 hok'.1.1
  have noz : mark (saidE (X[0]?.getD [])) (saidS (X[0]?.getD [])) ≠ List.replicate 8 0 := mark_ne (by omega) (by omega) (by omega)
  have hthe : saidE (X[0]?.getD []) = e' ∧ saidS (X[0]?.getD []) = s' := by
    obtain ⟨b, hb, x, ⟨h', hx⟩ | hx⟩ := hsome
    · have h1 := grp_marks hg b hb x
      rw [hx, put_marks hok' b h' x] at h1
      obtain ⟨q1, q2⟩ := mark_inj (by omega) (by omega) (by omega) (by omega) h1
      exact ⟨q1.symm, q2.symm⟩
    · exact absurd ((grp_marks hg b hb x).symm.trans hx) noz
  have hall : ∀ b (hb : b < X.length), ∃ h' : b < (putL e' s' is').length, X[b] = (putL e' s' is')[b] := by
    intro b hb
    have each : ∀ x : Fin 8, ∃ h' : b < (putL e' s' is').length, sec X[b] x.val = sec ((putL e' s' is')[b]) x.val := by
      intro x
      rcases hsec b hb x with hx | hx | hx
      · have h1 := grp_marks hg b hb x
        rw [hx, put_marks hok b (by omega) x, hthe.1, hthe.2] at h1
        exact absurd (mark_inj (by omega) (by omega) (by omega) (by omega) h1) hne
      · exact hx
      · exact absurd ((grp_marks hg b hb x).symm.trans hx) noz
    obtain ⟨h', _⟩ := each 0
    refine ⟨h', ?_⟩
    rw [← cat_sec X[b] (grp_len hg b hb), ← cat_sec _ (grp_len (put_grp hok') b h')]
    congr 1
    funext x
    obtain ⟨_, h2⟩ := each x
    exact h2
  have h0 : 0 < X.length := hg.1
  obtain ⟨h0', e0⟩ := hall 0 h0
  have hX0 : X[0]?.getD [] = headB e' s' (entL (mark e' s') is') := by
    rw [List.getElem?_eq_getElem h0, Option.getD_some, e0]
    rfl
  have hlen : X.length = (putL e' s' is').length := by
    have := hg.2.2.1
    rw [hX0, (put_said hok').2.2, entL_length] at this
    rw [this]
    simp [putL]
  refine List.ext_getElem hlen (fun b h1 h2 => ?_)
  obtain ⟨_, e1⟩ := hall b h1
  exact e1
end
end Go.Proofs.Ytglahlbponlepaa.Rc

/-
  SameLists, SameImages, SameGroup.
-/
namespace Go.Proofs.Ytglahlbponlepaa.Rc
open Go.RowKit

theorem below_drewN {B : Nat} {a w : World} (h : Below B a w) (n : Nat) : Below B a (w.drewN n) := ⟨h.os, h.tape, h.output, h.size, h.block⟩
theorem LstAt.drewN {w : World} {b o : Nat} {xs : List UInt8} (h : LstAt w b o xs) (n : Nat) : LstAt (w.drewN n) b o xs := h.below (below_drewN (Below.refl _ _) n)

end Go.Proofs.Ytglahlbponlepaa.Rc

/-
  What the laws' own helpers make: filled, one, CopyLists.
-/
namespace Go.Proofs.Ytglahlbponlepaa.Rc
open Go.RowKit

/-- the first k bytes are c, the others noughts -/
def fillK (c : UInt8) (k : Nat) : List UInt8 := (List.range 4096).map fun i => if i < k then c else 0
def fill (c : UInt8) : List UInt8 := fillK c 4096
theorem fillK_length (c : UInt8) (k : Nat) : (fillK c k).length = 4096 := by simp [fillK]
theorem fill_length (c : UInt8) : (fill c).length = 4096 := fillK_length c 4096
theorem fillK_get (c : UInt8) (k i : Nat) : (fillK c k)[i]? = if i < 4096 then some (if i < k then c else 0) else none := by
  unfold fillK
  rw [List.getElem?_map]
  by_cases h : i < 4096
  · rw [List.getElem?_range h, if_pos h]; rfl
  · rw [List.getElem?_eq_none (by simp; omega), if_neg h]; rfl
theorem fillK_zero (c : UInt8) : fillK c 0 = List.replicate 4096 0 := by
  apply List.ext_getElem?
  intro i
  rw [fillK_get, List.getElem?_replicate]
  simp
theorem fillK_set (c : UInt8) (k : Nat) (h : k < 4096) : (fillK c k).set k c = fillK c (k + 1) := by
  apply List.ext_getElem?
  intro i
  rw [List.getElem?_set, fillK_get, fillK_get, fillK_length]
  by_cases e : k = i
  · subst e
    rw [if_pos rfl, if_pos h, if_pos h, if_pos (by omega)]
  · rw [if_neg e]
    by_cases h1 : i < k
    · rw [if_pos h1, if_pos (show i < k + 1 by omega)]
    · rw [if_neg h1, if_neg (show ¬ i < k + 1 by omega)]
theorem fill_get (c : UInt8) (i : Nat) (h : i < 4096) : (fill c)[i]? = some c := by
  unfold fill
  rw [fillK_get, if_pos h, if_pos h]

theorem nought_fill (c : UInt8) : nought 4096 = fillK c 0 := by rw [fillK_zero]; rfl

end Go.Proofs.Ytglahlbponlepaa.Rc

/-
  CopyLists: blocks in memory of their own.
-/
namespace Go.Proofs.Ytglahlbponlepaa.Rc
open Go.RowKit

def lstC (ps : List GG) : List Value := ps.map fun p => .slice (some ⟨p.h, 0, none⟩) 4096 p.c

end Go.Proofs.Ytglahlbponlepaa.Rc

/-
  What Put leaves, as lists.
-/
namespace Go.Proofs.Ytglahlbponlepaa.Rc
open Go.RowKit

theorem cap_le {c : Nat} (h : c ≤ maxLen) : c ≤ 9223372036854775807 := by unfold maxLen at h; omega
theorem lst_row {w : World} {g o h c : Nat} {bl : List UInt8} (hc : w.cell? ⟨g, o, none⟩ = some (.slice (some ⟨h, 0, none⟩) 4096 c)) (hr : RowB w h c bl) (hl : bl.length = 4096) : LstAt w g o bl := by
  have q2 := hr
  obtain ⟨cur, hb, k1, k2, k3⟩ := q2
  exact ⟨some ⟨h, 0, none⟩, c, by rw [hl]; exact hc, k1, cap_le k2, fun h => (by cases h), hr.rd⟩
theorem rowC_at (ps : List PP) (i : Nat) (h : i < ps.length) : (rowC ps)[i]? = some (.slice (some ⟨(ps[i]).h, 0, none⟩) 4096 (ps[i]).c) := by simp [rowC, h]
theorem esOf_entL (M : List UInt8) (ps : List PP) : esOf M ps = entL M (ps.map fun p => (p.b, p.xs)) := by simp [esOf, entL]

theorem put_lsts {w' : World} {B gl cl h0 n e s : Nat} {ps : List PP} {is : List (Int × List UInt8)} (hn : is.length = n) (hok : okGroup e s is)
    (ho : w'.ownsRow B 64 1 (.slice (some ⟨gl, 0, none⟩) (n + 1) cl) (n + 1) (.slice (some ⟨h0, 0, none⟩) 4096 4096 :: rowC ps)) (hr : RowB w' h0 4096 (headB e s (esOf (mark e s) ps)))
    (hj : PutJ (mark e s) B w' ps) (hm : ps.map (fun p => (p.b, p.xs)) = is) : Lsts w' (some ⟨gl, 0, none⟩) (putL e s is) := fun _ => by
  have hlen : ps.length = n := by rw [← hn, ← hm]; simp
  rw [esOf_entL, hm] at hr
  refine ⟨gl, 0, rfl, fun j hjl => ?_⟩
  have hjn : j < n + 1 := by simpa [putL, hn] using hjl
  have cell : w'.cell? ⟨gl, 0 + j, none⟩ = (.slice (some ⟨h0, 0, none⟩) 4096 4096 :: rowC ps)[j]? := by
    rcases ho.2 with ⟨h1, _⟩ | ⟨g, cap, cur, h1, _, hg2, hnc, hcm, hcs, ht⟩
    · cases h1
    · injection h1 with h1
      injection h1 with h1
      injection h1 with h1
      subst h1
      have hB : Box w' gl cur 64 := hg2
      rw [Nat.zero_add, hB.cell j, ← ht, List.getElem?_take, if_pos (by omega)]
      simp
  cases j with
  | zero =>
    have e0 : (putL e s is)[0] = headB e s (entL (mark e s) is) := rfl
    have hl : (headB e s (entL (mark e s) is)).length = 4096 := headB_length (bodyB_length _ (entL_len hok) (by rw [entL_length]; exact (is_length hok).2))
    rw [e0]
    refine ⟨some ⟨h0, 0, none⟩, 4096, ?_, Nat.le_of_eq hl, by decide, fun h => (by cases h), hr.rd⟩
    rw [hl, cell]
    rfl
  | succ i =>
    have hi : i < ps.length := by omega
    have hii : i < is.length := by omega
    have e1 : (putL e s is)[i + 1] = stB (mark e s) (is[i]).2 := by simp [putL]
    have e2 : (is[i]).2 = (ps[i]).xs := by subst hm; simp
    obtain ⟨q1, _⟩ := hj.rows ps[i] (List.getElem_mem hi)
    have hd4 : (is[i]).2.length = 4096 := hok.2 (is[i]) (List.getElem_mem hii)
    have hl := stB_length (mark e s) (is[i]).2 hd4 (mark_length e s)
    rw [← e2] at q1
    have c2 : w'.cell? ⟨gl, 0 + (i + 1), none⟩ = some (.slice (some ⟨(ps[i]).h, 0, none⟩) 4096 (ps[i]).c) := by
      rw [cell, List.getElem?_cons_succ]
      exact rowC_at ps i hi
    have fin := lst_row c2 q1 hl
    rw [← e1] at fin
    exact fin
theorem putL_len {e s : Nat} {is : List (Int × List UInt8)} (hok : okGroup e s is) (x : List UInt8) (hx : x ∈ putL e s is) : x.length = 4096 := by
  have h1 := headB_length (e := e) (s := s) (bodyB_length (entL (mark e s) is) (entL_len hok) (by rw [entL_length]; exact (is_length hok).2))
  unfold putL at hx
  generalize headB e s (entL (mark e s) is) = hd at h1 hx
  rcases List.mem_cons.1 hx with q | q
  · rw [q]
    exact h1
  · obtain ⟨i, hi, q2⟩ := List.mem_map.1 q
    have h2 := stB_length (mark e s) i.2 (hok.2 i hi) (mark_length e s)
    rw [q2] at h2
    exact h2
end Go.Proofs.Ytglahlbponlepaa.Rc

/-
  A byte of one of many blocks is written.
-/
namespace Go.Proofs.Ytglahlbponlepaa.Rc
open Go.RowKit

/-- block i with byte j anew -/
def byteP (ps : List GG) (i j : Nat) (v : UInt8) : List GG := ps.modify i fun p => { p with xs := p.xs.set j v }
theorem byteP_h (ps : List GG) (i j : Nat) (v : UInt8) : (byteP ps i j v).map GG.h = ps.map GG.h := by
  unfold byteP
  refine List.ext_getElem? (fun k => ?_)
  simp only [List.getElem?_map, List.getElem?_modify]
  cases ps[k]? with
  | none => simp
  | some p => by_cases e : i = k <;> simp [e]
theorem byteP_c (ps : List GG) (i j : Nat) (v : UInt8) : lstC (byteP ps i j v) = lstC ps := by
  unfold byteP lstC
  refine List.ext_getElem? (fun k => ?_)
  simp only [List.getElem?_map, List.getElem?_modify]
  cases ps[k]? with
  | none => simp
  | some p => by_cases e : i = k <;> simp [e]
theorem byteP_x (ps : List GG) (i j : Nat) (v : UInt8) : (byteP ps i j v).map GG.xs = (ps.map GG.xs).modify i fun x => x.set j v := by
  unfold byteP
  refine List.ext_getElem? (fun k => ?_)
  simp only [List.getElem?_map, List.getElem?_modify]
  cases ps[k]? with
  | none => simp
  | some p => by_cases e : i = k <;> simp [e]
theorem RowB.byte {w : World} {g c : Nat} {ys : List UInt8} (h : RowB w g c ys) (j : Nat) (_hj : j < ys.length) (v : UInt8) : RowB (w.setCell ⟨g, j, none⟩ (.int .u8 (v.toNat : Int))) g c (ys.set j v) := by
  obtain ⟨cur, hb, h1, h2, h3, h4⟩ := h
  refine ⟨_, hb.store j _, by simpa using h1, h2, by simpa using h3, ?_⟩
  have e : bcs (ys.set j v) = (bcs ys).set j (.int .u8 (v.toNat : Int)) := by
    unfold bcs
    rw [List.map_set]
    rfl
  rw [Array.toList_setIfInBounds, List.length_set, e, ← h4, List.take_set]
theorem GetJ.byte {B : Nat} {W : World} {ps : List GG} (h : GetJ B W ps) (i : Nat) (hi : i < ps.length) (j : Nat) (hj : j < 4096) (v : UInt8) : GetJ B (W.setCell ⟨(ps[i]).h, j, none⟩ (.int .u8 (v.toNat : Int))) (byteP ps i j v) := by
  have hnd := h.apart
  refine ⟨fun p hp => ?_, by rw [byteP_h]; exact hnd⟩
  obtain ⟨k, hk, rfl⟩ := List.getElem_of_mem hp
  have hk' : k < ps.length := by simpa [byteP] using hk
  obtain ⟨a1, a2, a3⟩ := h.rows ps[k] (List.getElem_mem hk')
  by_cases e : i = k
  · subst e
    have : (byteP ps i j v)[i] = { ps[i] with xs := (ps[i]).xs.set j v } := by simp [byteP]
    rw [this]
    exact ⟨a1.byte j (by omega) v, a2, by simpa using a3⟩
  · have : (byteP ps i j v)[k] = ps[k] := by simp [byteP, e]
    rw [this]
    refine ⟨a1.same (heap_setCell_other W ⟨(ps[i]).h, j, none⟩ (ps[k]).h _ (fun q => ?_)), a2, a3⟩
    have h1 : (ps.map GG.h)[k]'(by simpa using hk') = (ps.map GG.h)[i]'(by simpa using hi) := by simpa using q
    exact e ((List.getElem_inj hnd).1 h1).symm
end Go.Proofs.Ytglahlbponlepaa.Rc

/-
  Put and Get in one form each: what comes back, as lists in memory.
-/
namespace Go.Proofs.Ytglahlbponlepaa.Rc
open Go.RowKit

theorem owns_cells {w : World} {B e size n m : Nat} {a : Option Addr} {c : Nat} {xs : List Value} (ho : w.ownsRow B e size (.slice a n c) m xs) (h0 : 0 < m) :
    ∃ g, a = some ⟨g, 0, none⟩ ∧ B ≤ g ∧ (∃ cur, Box w g cur e) ∧ ∀ j, j < m * size → w.cell? ⟨g, j, none⟩ = xs[j]? := by
  rcases ho.2 with ⟨h1, h2⟩ | ⟨g, cap, cur, h1, hBg, hg2, hnc, hcm, hcs, ht⟩
  · omega
  · injection h1 with h1
    subst h1
    have hB : Box w g cur e := hg2
    refine ⟨g, rfl, hBg, ⟨cur, hB⟩, fun j hj => ?_⟩
    rw [hB.cell j, ← ht, List.getElem?_take, if_pos hj]
    simp
theorem imgs_of {w : World} {B m : Nat} {a : Option Addr} {n c : Nat} {qs : List GG} (ho : w.ownsRow B 67 2 (.slice a n c) m (imgC qs)) (hj : GetJ B w qs) (hm : qs.length = m) : Imgs w a (qs.map fun p => (p.b, p.xs)) := fun h0 => by
  have hq : 0 < qs.length := by simpa using h0
  obtain ⟨g, rfl, _, _, hc⟩ := owns_cells ho (by omega)
  refine ⟨g, 0, rfl, fun j hjl => ?_⟩
  have hjq : j < qs.length := by simpa using hjl
  obtain ⟨q1, _, q3⟩ := hj.rows qs[j] (List.getElem_mem hjq)
  obtain ⟨k0, k1⟩ := imgC_at qs j hjq
  have q4 := q1
  obtain ⟨cur, hb, p1, p2, _⟩ := q4
  rw [List.getElem_map]
  refine ⟨?_, some ⟨(qs[j]).h, 0, none⟩, (qs[j]).c, ?_, p1, cap_le p2, fun h => (by cases h), q1.rd⟩
  · show w.cell? ⟨g, 0 + j * 2, none⟩ = _
    rw [Nat.zero_add, hc _ (by omega), k0]
  · show w.cell? ⟨g, 0 + j * 2 + 1, none⟩ = some (.slice (some ⟨(qs[j]).h, 0, none⟩) (qs[j]).xs.length (qs[j]).c)
    rw [Nat.zero_add, hc _ (by omega), k1, q3]
theorem lsts_of {w : World} {B m : Nat} {a : Option Addr} {n c : Nat} {qs : List GG} (ho : w.ownsRow B 64 1 (.slice a n c) m (lstC qs)) (hj : GetJ B w qs) (hm : qs.length = m) : Lsts w a (qs.map GG.xs) := fun h0 => by
  have hq : 0 < qs.length := by simpa using h0
  obtain ⟨g, rfl, _, _, hc⟩ := owns_cells ho (by omega)
  refine ⟨g, 0, rfl, fun j hjl => ?_⟩
  have hjq : j < qs.length := by simpa using hjl
  obtain ⟨q1, _, q3⟩ := hj.rows qs[j] (List.getElem_mem hjq)
  rw [List.getElem_map]
  refine lst_row ?_ q1 q3
  rw [Nat.zero_add, hc j (by omega)]
  simp [lstC, hjq]

/-- what Put leaves -/
def PutR (w : World) (e s : Int) (is : List (Int × List UInt8)) (n : Nat) (r : Ending) (w' : World) : Prop :=
  (∃ (E S : Nat), e = (E : Int) ∧ s = (S : Int) ∧ okGroup E S is ∧ ∃ gl cl, r = .returned (.tuple #[.slice (some ⟨gl, 0, none⟩) (n + 1) cl, .int .i64 0]) ∧ Lsts w' (some ⟨gl, 0, none⟩) (putL E S is) ∧ Below w.heap.size w w') ∨
  (¬ okGroup e s is ∧ r = .returned (.tuple #[.slice none 0 0, .int .i64 80]) ∧ Below w.heap.size w w')
theorem putG_any (e s : Int) (a : Option Addr) (n cap : Nat) (is : List (Int × List UInt8)) (w : World) (hl : is.length = n) (hn : n * 32 ≤ 140737488355328) (hI : Imgs w a is) :
    Calls Try.prog 26 #[.agg #[.int .i64 e, .int .i64 s, .slice a n cap]] w (PutR w e s is n) := by
  by_cases hok : okGroup e s is
  · have hst := (okStamp_iff _ _).1 hok.1.1
    obtain ⟨E, rfl⟩ : ∃ E : Nat, e = (E : Int) := ⟨e.toNat, by omega⟩
    obtain ⟨S, rfl⟩ : ∃ S : Nat, s = (S : Int) := ⟨s.toNat, by omega⟩
    have hlen := is_length hok
    refine (put_in E S a n cap is w hl hI hok (by omega) (by omega)).mono ?_
    rintro r w' ⟨gl, cl, h0, ps, rfl, hgl, ho, hr, _, _, hj, hm, b⟩
    subst hl
    exact .inl ⟨E, S, rfl, rfl, hok, gl, cl, rfl, put_lsts rfl hok ho hr hj hm, b⟩
  · refine (put_no e s a n cap is w hl hn hI hok).mono ?_
    rintro r w' ⟨rfl, b⟩
    exact .inr ⟨hok, rfl, b⟩
theorem putL_length (e s : Nat) (is : List (Int × List UInt8)) : (putL e s is).length = is.length + 1 := by simp [putL]
/-- a row of slices stays when a byte is written -/
theorem owns_byte {w : World} {B n g j : Nat} {v : Value} {cs : List Value} {c : Nat} {ys : List UInt8} (ho : w.ownsRow B 64 1 v n cs) (hr : RowB w g c ys) (u : Value) : (w.setCell ⟨g, j, none⟩ u).ownsRow B 64 1 v n cs := by
  refine owns_grown ho (grown_store w g j u) (fun k hk e => ?_)
  injection e with e
  subst e
  obtain ⟨_, cur, hb⟩ := owns_block ho _ hk
  obtain ⟨cur2, hb2, _⟩ := hr
  exact Box.ne hb2 hb (by decide) rfl
theorem RowB.cellAt {w : World} {g c j : Nat} {ys : List UInt8} (h : RowB w g c ys) (hj : j < ys.length) : w.cell? ⟨g, j, none⟩ = some (.int .u8 (ys[j].toNat : Int)) ∧ w.frozen? ⟨g, j, none⟩ = false := by
  obtain ⟨g', o, e, hc⟩ := h.rd (by omega)
  simp at e
  obtain ⟨rfl, rfl⟩ := e
  have := hc j hj
  rw [Nat.zero_add] at this
  obtain ⟨cur, hb, _⟩ := h
  exact ⟨this, hb.frozen j⟩
end Go.Proofs.Ytglahlbponlepaa.Rc

/-
  Made: so many bytes, out of a number.
-/
namespace Go.Proofs.Ytglahlbponlepaa.Rc
open Go.RowKit

def nx (x : Int) : Int := IntKind.u64.wrap (IntKind.u64.wrap (x * 2862933555777941757) + 3037000493)
/-- the number behind k bytes -/
def seedAt (s : Int) : Nat → Int
  | 0 => nx (IntKind.u64.wrap s)
  | k + 1 => if k % 8 = 0 then nx (seedAt s k) else seedAt s k
def byteAt (s : Int) (k : Nat) : UInt8 := UInt8.ofNat (seedAt s (k + 1) / 1099511627776 % 256).toNat
def madeK (s : Int) (n : Nat) : Nat → List UInt8
  | 0 => nought n
  | k + 1 => (madeK s n k).set k (byteAt s k)
def madeL (s : Int) (n : Nat) : List UInt8 := madeK s n n
theorem madeK_length (s : Int) (n : Nat) : ∀ k, (madeK s n k).length = n
  | 0 => nought_length n
  | k + 1 => by rw [madeK, List.length_set, madeK_length s n k]
theorem byteAt_eq (s : Int) (k : Nat) : ((byteAt s k).toNat : Int) = seedAt s (k + 1) / 1099511627776 % 256 := by
  unfold byteAt
  have h1 : 0 ≤ seedAt s (k + 1) / 1099511627776 % 256 := Int.emod_nonneg _ (by decide)
  have h2 : seedAt s (k + 1) / 1099511627776 % 256 < 256 := Int.emod_lt_of_pos _ (by decide)
  rw [UInt8.toNat_ofNat']
  omega
theorem seedAt_step (s : Int) (k : Nat) (h : k % 8 = 0) : seedAt s (k + 1) = nx (seedAt s k) := by rw [seedAt, if_pos h]
theorem seedAt_same (s : Int) (k : Nat) (h : ¬ k % 8 = 0) : seedAt s (k + 1) = seedAt s k := by rw [seedAt, if_neg h]
theorem nx_range (x : Int) : 0 ≤ nx x ∧ nx x ≤ 18446744073709551615 := by unfold nx; rw [IntKind.wrap_u64]; omega
theorem seedAt_range (s : Int) : ∀ k, 0 ≤ seedAt s k ∧ seedAt s k ≤ 18446744073709551615
  | 0 => nx_range _
  | k + 1 => by rw [seedAt]; split; exact nx_range _; exact seedAt_range s k

set_option maxRecDepth 100000 in
set_option maxHeartbeats 2000000 in
theorem made_at (s : Int) (n : Nat) (w : World) (hn : n ≤ 1000000) :
    Calls Try.prog 30 #[.int .i64 s, .int .i64 (n : Int)] w fun e w' => e = .returned (.slice (some ⟨w.heap.size, 0, none⟩) n n) ∧ Own w' w.heap.size (madeL s n) ∧ Below w.heap.size w w' := by
  have hm : ∀ u : World, (Instr.makeSlice 64 (.int .i64 (n : Int)) (.int .i64 (n : Int))).run Try.prog u = .ok (.slice (some ⟨u.heap.size, 0, none⟩) n n) (u.alloc (.cells (bcs (madeK s n 0)).toArray 5)) := make_run n (by omega)
  have o0 := own_lit w (madeK s n 0)
  have B0 := (Below.refl w.heap.size w).alloc (Nat.le_refl _) (.cells (bcs (madeK s n 0)).toArray 5)
  obtain ⟨U, hU⟩ : ∃ U, U = w.alloc (.cells (bcs (madeK s n 0)).toArray 5) := ⟨_, rfl⟩
  rw [← hU] at o0 B0
  have HU : Hid _ := hU
  clear hU
  go_enter Try.func30, Try.ntmps30
  go_wp2_with fail
  rw [← HU.out]
  go_loopw [6, 7] (fun x i wr => ∃ k : Nat, k ≤ n ∧ x = .int .u64 (seedAt s k) ∧ i = .int .i64 k ∧ Own wr w.heap.size (madeK s n k) ∧ Below w.heap.size w wr) (fun _ i _ => n - (intOf i).toNat)
  case atStart => exact ⟨0, Nat.zero_le _, rfl, rfl, o0, B0⟩
  case round =>
    obtain ⟨k, hk, rfl, rfl, o, B⟩ := hrel
    clear o0 B0 hm HU
    by_cases hlt : k < n
    · have hlt2 : (k : Int) < (n : Int) := by omega
      have c0 := o.cell k (by rw [madeK_length]; exact hlt)
      have f0 := o.frozen k
      have o1 := o.store k (byteAt s k)
      have B1 := B.setCell (p := ⟨w.heap.size, k, none⟩) (Nat.le_refl _) (.int .u8 ((byteAt s k).toNat : Int))
      generalize ((madeK s n k)[k]'(by rw [madeK_length]; exact hlt)) = q at c0
      have o1' : Own _ w.heap.size (madeK s n (k + 1)) := o1
      clear o1
      rw [byteAt_eq] at o1' B1
      have r0 := seedAt_range s k
      by_cases h8 : k % 8 = 0
      · have e8 : ((k : Int) % 8 == 0) = true := by simp; omega
        rw [seedAt_step s k h8] at o1' B1
        unfold nx at o1' B1
        have Hs : Hid _ := seedAt_step s k h8
        clear h8
        go_wp2
        go_roundw
        case rel => exact ⟨k + 1, by omega, by rw [Hs.out]; rfl, by go_num, o1', B1⟩
        case measure => simp [intOf]; omega
      · have e8 : ((k : Int) % 8 == 0) = false := by simp; omega
        rw [seedAt_same s k h8] at o1' B1
        have Hs : Hid _ := seedAt_same s k h8
        clear h8
        go_wp2
        go_roundw
        case rel => exact ⟨k + 1, by omega, by rw [Hs.out], by go_num, o1', B1⟩
        case measure => simp [intOf]; omega
    · have hkn : k = n := by omega
      subst k
      go_wp2
      go_ret
      exact ⟨rfl, o, B⟩
end Go.Proofs.Ytglahlbponlepaa.Rc

/-
  The law's images, at blocks, made of a number.
-/
namespace Go.Proofs.Ytglahlbponlepaa.J
open Go.RowKit
open Go.Proofs.Ytglahlbponlepaa.Rc (GG GetJ imgC madeL RowB owns_below owns_shape owns_block)

/-- the number behind k images -/
def nk (N : Nat) : Nat → Nat
  | 0 => N
  | k + 1 => nk N k / 2 + k
theorem nk_le (N : Nat) (h : N ≤ 2000000) : ∀ k, k ≤ 100 → nk N k ≤ 2000000
  | 0, _ => h
  | k + 1, hk => by
    have := nk_le N h k (by omega)
    show nk N k / 2 + k ≤ _
    omega
/-- the images of the first k blocks -/
def imgL (bs : List Int) (N k : Nat) : List (Int × List UInt8) := (List.range k).map fun i => (bs.getD i 0, madeL (nk N i : Int) 4096)
theorem imgL_succ (bs : List Int) (N k : Nat) (h : k < bs.length) : imgL bs N (k + 1) = imgL bs N k ++ [(bs[k], madeL (nk N k : Int) 4096)] := by simp [imgL, List.range_succ, h]
theorem imgL_length (bs : List Int) (N k : Nat) : (imgL bs N k).length = k := by simp [imgL]

set_option maxRecDepth 100000 in
set_option maxHeartbeats 4000000 in
theorem images_at (w : World) (b o n c N : Nat) (bs : List Int) (hl : bs.length = n) (hn : n ≤ 40) (hN : N ≤ 2000000) (hb : ∀ j (h : j < bs.length), w.cell? ⟨b, o + j, none⟩ = some (.int .i64 bs[j])) :
    Calls Try.prog 7 #[.slice (some ⟨b, o, none⟩) n c, .int .i64 (N : Int)] w fun r w' => ∃ a' c' qs, r = .returned (.slice a' n c') ∧ w'.ownsRow w.heap.size 67 2 (.slice a' n c') n (imgC qs) ∧ GetJ w.heap.size w' qs ∧ qs.map (fun p => (p.b, p.xs)) = imgL bs N n ∧ Below w.heap.size w w' := by
  obtain ⟨i0, hi, hz0, hz1, hz2⟩ := info_parts Rc.info38
  have HL : Hid (bs.length = n) := hl
  have HB : Hid (∀ j (h : j < bs.length), w.cell? ⟨b, o + j, none⟩ = some (.int .i64 bs[j])) := hb
  clear hl hb
  go_enter Try.func7, Try.ntmps7
  go_wp2_with fail
  go_loopw [1, 5, 6] (fun x v i u => ∃ (k : Nat) (qs : List GG), k ≤ n ∧ i = .int .i64 (k : Int) ∧ x = .int .i64 (nk N k : Int) ∧ u.ownsRow w.heap.size 67 2 v k (imgC qs) ∧ GetJ w.heap.size u qs ∧ qs.map (fun p => (p.b, p.xs)) = imgL bs N k ∧ Below w.heap.size w u) (fun _ _ i _ => n - (intOf i).toNat)
  case atStart => exact ⟨0, [], Nat.zero_le _, rfl, rfl, World.ownsRow_nil _ _ _ _, ⟨fun p hp => (by cases hp), List.nodup_nil⟩, rfl, Below.refl _ _⟩
  case round =>
    obtain ⟨k, qs, hk, rfl, rfl, hown, hJ, hps, B⟩ := hrel
    have HPS : Hid (qs.map (fun p => (p.b, p.xs)) = imgL bs N k) := hps
    have HJ : Hid (GetJ w.heap.size wr qs) := hJ
    have HOWN : Hid (wr.ownsRow w.heap.size 67 2 u5 k (imgC qs)) := hown
    clear hps hJ
    obtain ⟨av, cv, rfl⟩ := owns_shape hown
    by_cases hlt : k < n
    · have k1 : k < bs.length := by rw [HL.out]; exact hlt
      have g0 := HB.out k k1
      have lb : b < w.heap.size := block_lt_of_cell g0
      have hstep : Hid (imgL bs N (k + 1) = imgL bs N k ++ [(bs[k], madeL (nk N k : Int) 4096)]) := imgL_succ bs N k k1
      have hml : Hid ((madeL (nk N k : Int) 4096).length = 4096) := Rc.madeK_length _ _ _
      have cM := Rc.made_at (nk N k : Int) 4096 wr.drew (by omega)
      have hnk := nk_le N hN k (by omega)
      have hnx : Hid (nk N (k + 1) = nk N k / 2 + k) := rfl
      generalize nk N k = nn at cM hstep hml hnk hnx ⊢
      obtain ⟨ml, hmd⟩ : ∃ l, l = madeL (nn : Int) 4096 := ⟨_, rfl⟩
      rw [← hmd] at cM hstep hml
      generalize (bs[k]'k1) = bx at g0 hstep
      clear hmd
      have HS : Hid (∀ u : World, Below w.heap.size w u → u.cell? ⟨b, o + k, none⟩ = some (.int .i64 bx) ∧ Hid (Below w.heap.size w u)) := fun u hu =>
        ⟨(hu.cell (p := ⟨b, o + k, none⟩) lb).trans g0, hu⟩
      have hk0 : (0 : Int) ≤ (k : Int) := by omega
      have hki : (k : Int) < (n : Int) := by omega
      have hk40 : (k : Int) < 40 := by omega
      have hdv : ((nn : Int).tdiv 2) = ((nn / 2 : Nat) : Int) := by rw [Int.tdiv_eq_ediv_of_nonneg (by omega)]; omega
      have hd2 : nn / 2 ≤ 1000000 := by omega
      generalize hnq : nn / 2 = nq at hdv hnx hd2
      have hwq : IntKind.i64.wrap (nq : Int) = (nq : Int) := by rw [IntKind.wrap_i64]; omega
      clear hnq
      clear g0 lb hown
      go_wp2_with fail
      go_region_held3 (fun u => u.cell? ⟨b, o + k, none⟩ = some (.int .i64 bx) ∧ Hid (Below w.heap.size w u))
        (first | with_reducible exact HS.out _ B.drew | with_reducible exact HS.out _ B1 | with_reducible exact HS.out _ B2 | with_reducible exact HS.out _ (B1.alloc B1.size _))
        (first
          | (go_at_call 30; refine Calls.mono cM ?_; rintro r W ⟨rfl, om, bW⟩
             have rowM : Hid (RowB W wr.heap.size 4096 ml) := by
               have := Rc.RowB.own om (by rw [hml.out]; decide)
               rwa [hml.out] at this
             have J2 : Hid (GetJ w.heap.size W (qs ++ [⟨bx, ml, wr.heap.size, 4096⟩])) := (HJ.out.below ((Below.refl wr.heap.size wr).drew)).snoc bW ⟨bx, ml, wr.heap.size, 4096⟩ rowM.out (Nat.le_refl _) hml.out B.size
             have O2 : Hid (W.ownsRow w.heap.size 67 2 (.slice av k cv) k (imgC qs)) := owns_below (owns_below HOWN.out ((Below.refl wr.heap.size wr).drew)) bW
             have B1 := B.drew.trans (bW.mono B.size)
             clear om bW cM B)
          | ((refine step_append_lies _ (by rfl) _ _ _ (by rfl) w.heap.size 67 i0 _ 2 32 Try.underlying29 hi hz0 hz1 hz2 rfl (by omega) (.slice av k cv) k (imgC qs) (by rfl) (owns_below O2.out ((Below.refl _ W).alloc (Nat.le_refl _) _))
                ⟨W.heap.size, 0, none⟩ 1 1 [.int .i64 bx, .slice (some ⟨wr.heap.size, 0, none⟩) 4096 4096] (by rfl) (by rfl) (World.news_of_block (cs := #[.int .i64 bx, .slice (some ⟨wr.heap.size, 0, none⟩) 4096 4096]) (t := 67) (fr := (0, 0)) (heap_alloc_new W _)) (by intro u hu; simp at hu; rcases hu with rfl | rfl <;> rfl)
                (by omega) (by unfold maxLen; omega) (by omega) (by simp; exact Nat.le_succ_of_le B1.size) (W.heap.size + 1) (by simp) ?_)
             intro gg gc w1 hown1 hgrow hat hlt1
             have B2 := (B1.alloc B1.size (.cells #[.int .i64 bx, .slice (some ⟨wr.heap.size, 0, none⟩) 4096 4096] 67)).grown hgrow (by simp; exact Nat.le_succ_of_le B1.size) (fun j e => (owns_block O2.out j e).1)
             have J3 : Hid (GetJ w.heap.size w1 (qs ++ [⟨bx, ml, wr.heap.size, 4096⟩])) := (J2.out.below ((Below.refl _ W).alloc (Nat.le_refl _) (.cells #[.int .i64 bx, .slice (some ⟨wr.heap.size, 0, none⟩) 4096 4096] 67))).grown (owns_below O2.out ((Below.refl _ W).alloc (Nat.le_refl _) _)) (by decide) hgrow
             clear hgrow hat hlt1))
      have O5 : Hid (w1.ownsRow w.heap.size 67 2 (.slice (some ⟨gg, 0, none⟩) (k + 1) gc) (k + 1) (imgC (qs ++ [⟨bx, ml, wr.heap.size, 4096⟩]))) := by
        have e : imgC (qs ++ [⟨bx, ml, wr.heap.size, 4096⟩]) = imgC qs ++ [.int .i64 bx, .slice (some ⟨wr.heap.size, 0, none⟩) 4096 4096] := by simp [imgC]
        rw [e]
        exact hown1
      clear hown1 J2 O2 B1
      go_wp2_with fail
      go_roundw
      case rel => exact ⟨k + 1, _, by omega, by push_cast; rfl, by rw [hnx.out]; push_cast; rfl, O5.out, J3.out, by rw [List.map_append, HPS.out, hstep.out]; rfl, B2⟩
      case measure => simp [intOf]; omega
    · have hke : k = n := by omega
      rw [hke] at HOWN HPS ⊢
      clear hke hlt hk hown
      go_wp2_with fail
      go_ret
      exact ⟨_, _, qs, rfl, HOWN.out, HJ.out, HPS.out, B⟩
end Go.Proofs.Ytglahlbponlepaa.J

/-
  Bytes in memory, whatever the program: rows that are read, rows of one's own, copies; told over this seat's tables.
-/
namespace Go.Proofs.Ytglahlbponlepaa.Dk
open Go.RowKit

theorem u8_lt (c : UInt8) : c.toNat < 256 := c.toNat_lt
theorem ofNat_toNat (v : Nat) : (UInt8.ofNat v).toNat = v % 256 := by simp
def bc (c : UInt8) : Value := .int .u8 (c.toNat : Int)
def bcs (l : List UInt8) : List Value := l.map bc
theorem bcs_length (l : List UInt8) : (bcs l).length = l.length := by simp [bcs]
theorem bcs_append (l r : List UInt8) : bcs (l ++ r) = bcs l ++ bcs r := by simp [bcs]
theorem bcs_getElem? (l : List UInt8) (j : Nat) (h : j < l.length) : (bcs l)[j]? = some (.int .u8 (l[j].toNat : Int)) := by simp [bcs, bc, List.getElem?_eq_getElem h]
theorem bcs_oneCell (l : List UInt8) : ∀ v ∈ bcs l, v.oneCell' = true := by
  intro v hv
  obtain ⟨_, _, rfl⟩ := List.mem_map.1 hv
  rfl

/-- Block g holds just these bytes, and may be written. -/
def Own (w : World) (g : Nat) (ys : List UInt8) : Prop := w.heap[g]? = some (.cells (bcs ys).toArray 5 (0, 0))

theorem Own.cell {w : World} {g : Nat} {ys : List UInt8} (h : Own w g ys) (j : Nat) (hj : j < ys.length) : w.cell? ⟨g, j, none⟩ = some (.int .u8 (ys[j].toNat : Int)) := by
  rw [cell_of_row w g j _ 5 (0, 0) h]
  simpa using bcs_getElem? ys j hj
theorem Own.frozen {w : World} {g : Nat} {ys : List UInt8} (h : Own w g ys) (j : Nat) : w.frozen? ⟨g, j, none⟩ = false := frozen_of_row w g j _ 5 h
theorem Own.lt {w : World} {g : Nat} {ys : List UInt8} (h : Own w g ys) : g < w.heap.size := (Array.getElem?_eq_some_iff.1 h).1
theorem Own.store {w : World} {g : Nat} {ys : List UInt8} (h : Own w g ys) (j : Nat) (c : UInt8) : Own (w.setCell ⟨g, j, none⟩ (.int .u8 (c.toNat : Int))) g (ys.set j c) := by
  unfold Own
  rw [heap_setCell_same w g j _ 5 _ h]
  congr 2
  apply Array.toList_inj.1
  simp [bcs, bc]
/-- What lies below a mark stays. -/
theorem Own.below {B : Nat} {w w' : World} {g : Nat} {ys : List UInt8} (h : Own w g ys) (hb : Below B w w') (hg : g < B) : Own w' g ys := (hb.block g hg).trans h

theorem grown_trans {a b c : World} {row : Option Nat} (h : a.grownBy b row) (k : b.grownBy c row) : a.grownBy c row :=
  ⟨k.os.trans h.os, k.tape.trans h.tape, k.output.trans h.output, Nat.le_trans h.size k.size, fun i hi hr => (k.block i (Nat.lt_of_lt_of_le hi h.size) hr).trans (h.block i hi hr)⟩
theorem grown_store (w : World) (g j : Nat) (u : Value) : w.grownBy (w.setCell ⟨g, j, none⟩ u) (some g) :=
  ⟨rfl, rfl, rfl, by simp, fun k _ hk => heap_setCell_other w ⟨g, j, none⟩ k u (fun e => hk (by simp [e]))⟩
theorem grown_setRow (w : World) (g : Nat) (cs : Array Value) : w.grownBy (w.setRow g cs) (some g) :=
  ⟨rfl, rfl, rfl, by simp [World.setRow], fun k _ hk => setRow_other w g k cs (fun e => hk (by simp [e]))⟩

/-- The bytes xs lie where a says (of no bytes nothing is asked). -/
def Rd (w : World) (a : Option Addr) (xs : List UInt8) : Prop :=
  0 < xs.length → ∃ b o, a = some ⟨b, o, none⟩ ∧ ∀ j (h : j < xs.length), w.cell? ⟨b, o + j, none⟩ = some (.int .u8 (xs[j].toNat : Int))
theorem Rd.nil (w : World) (a : Option Addr) : Rd w a [] := fun h => absurd h (by simp)
theorem Own.rd {w : World} {g : Nat} {ys : List UInt8} (h : Own w g ys) : Rd w (some ⟨g, 0, none⟩) ys := fun _ => ⟨g, 0, rfl, fun j hj => by rw [Nat.zero_add]; exact h.cell j hj⟩
/-- What is read stays as long as old blocks stay. -/
theorem Rd.below {B : Nat} {w w' : World} {a : Option Addr} {xs : List UInt8} (h : Rd w a xs) (hb : Below B w w') (hB : w.heap.size ≤ B) : Rd w' a xs := fun hp => by
  obtain ⟨b, o, ha, hc⟩ := h hp
  refine ⟨b, o, ha, fun j hj => ?_⟩
  have hlt : b < w.heap.size := block_lt_of_cell (hc j hj)
  rw [hb.cell (p := ⟨b, o + j, none⟩) (Nat.lt_of_lt_of_le hlt hB)]
  exact hc j hj

theorem info5 : (Try.prog.info? 5).map (fun i => (i.zero, i.size, i.bytes)) = some (some (.int .u8 0), 1, 1) := by kernel_rfl
theorem size5 : (Try.prog.info? 5).map (·.size) = some 1 := by kernel_rfl

theorem below_of_grown {w u : World} {g : Nat} (h : w.grownBy u (some g)) (hg : w.heap.size ≤ g) : Below w.heap.size w u := (Below.refl _ _).grown h (Nat.le_refl _) (fun k hk => by simp at hk; omega)

theorem made_zero (n : Nat) : (madeCells #[Value.int .u8 0] n) = (bcs (List.replicate n 0)).toArray := by
  apply Array.toList_inj.1
  apply List.ext_getElem
  · simp [madeCells, bcs]
  · intro i h1 h2
    simp [madeCells, bcs, bc, Nat.mod_one]

/-- string(bytes). -/
theorem conv_run (u : World) (a : Option Addr) (cap : Nat) (xs : List UInt8) (hr : Rd u a xs) : (convert 64 9 (.slice a xs.length cap)).run Try.prog u = .ok (.string ⟨xs.toArray⟩) u := by
  cases a with
  | none =>
    by_cases h0 : 0 < xs.length
    · obtain ⟨b, o, h, _⟩ := hr h0
      simp at h
    · obtain rfl : xs = [] := List.eq_nil_of_length_eq_zero (by omega)
      exact run_convert_bytes_nil u 64 5 Try.underlying64 Try.underlying5 0 cap 9 Try.underlying9
  | some a =>
    exact run_convert_bytes_back u 64 9 5 a cap xs Try.underlying64 Try.underlying5 Try.underlying9 (fun j hj => by
      obtain ⟨b, o, h, hc⟩ := hr (by omega)
      obtain rfl := Option.some.inj h
      rw [Addr.add_lit]
      exact hc j hj)

theorem own_lit (w : World) (xs : List UInt8) : Own (w.alloc (.cells (bcs xs).toArray 5)) w.heap.size xs := heap_alloc_new w _

theorem bytes5 : Try.prog.bytesOf 5 = 1 := by kernel_rfl

theorem u8_bounds {n : Int} (h : (Lit.int .u8 n).wf = true) : 0 ≤ n ∧ n ≤ 255 := by
  simpa [Lit.wf, IntKind.min, IntKind.max, IntKind.signed, IntKind.bits] using h
theorem u64_bounds {n : Int} (h : (Lit.int .u64 n).wf = true) : 0 ≤ n ∧ n ≤ 18446744073709551615 := by
  simpa [Lit.wf, IntKind.min, IntKind.max, IntKind.signed, IntKind.bits] using h
theorem u32_bounds {n : Int} (h : (Lit.int .u32 n).wf = true) : 0 ≤ n ∧ n ≤ 4294967295 := by
  simpa [Lit.wf, IntKind.min, IntKind.max, IntKind.signed, IntKind.bits] using h
theorem i64_bounds {n : Int} (h : (Lit.int .i64 n).wf = true) : -9223372036854775808 ≤ n ∧ n ≤ 9223372036854775807 := by
  simpa [Lit.wf, IntKind.min, IntKind.max, IntKind.signed, IntKind.bits] using h

theorem bytes_of_ints {w : World} {a : Addr} {len cap : Nat} {zs : List Int} (hl : len ≤ cap) (hz : zs.length = cap)
    (hcell : ∀ i, i < zs.length → w.cell? (a.add i) = some (.int .u8 (zs.getD i 0))) (hwz : ∀ n ∈ zs, (Lit.int .u8 n).wf = true) :
    ∃ xs : List UInt8, xs.length = len ∧ Rd w (some a) xs := by
  refine ⟨(zs.take len).map fun n => UInt8.ofNat n.toNat, by simp; omega, fun hp => ?_⟩
  have hlen : 0 < len := by simp at hp; omega
  have h0 := hcell 0 (by omega)
  obtain ⟨b, o, sp⟩ := a
  have hsp : sp = none := by simpa [Addr.add] using World.cell?_spot h0
  subst hsp
  refine ⟨b, o, rfl, fun j hj => ?_⟩
  have hj' : j < len := by simp at hj; omega
  have hjz : j < zs.length := by omega
  have h := hcell j hjz
  rw [Addr.add_lit] at h
  rw [h]
  have hb := u8_bounds (hwz zs[j] (List.getElem_mem hjz))
  have e : zs.getD j 0 = zs[j] := by simp [List.getD, List.getElem?_eq_getElem hjz]
  rw [e]
  simp only [List.getElem_map, List.getElem_take]
  congr 2
  rw [ofNat_toNat]
  omega

/-! ### rows that grow -/
theorem owns_rd {w : World} {B n : Nat} {v : Value} {ys : List UInt8} (h : w.ownsRow B 5 1 v n (bcs ys)) :
    ∃ a cap, v = .slice a n cap ∧ ys.length = n ∧ n ≤ cap ∧ cap ≤ maxLen ∧ Rd w a ys ∧ (0 < n → ∃ g, a = some ⟨g, 0, none⟩ ∧ B ≤ g ∧ g < w.heap.size) := by
  have hl : ys.length = n := by have := h.1; rw [bcs_length] at this; omega
  rcases h.2 with ⟨rfl, rfl⟩ | ⟨g, cap, cur, rfl, hb, hg, hnc, hcm, hcs, htake⟩
  · have h0 : ys = [] := List.eq_nil_of_length_eq_zero hl
    subst h0
    exact ⟨none, 0, rfl, rfl, Nat.le_refl _, by simp [maxLen], Rd.nil _ _, fun h => by omega⟩
  · refine ⟨some ⟨g, 0, none⟩, cap, rfl, hl, hnc, hcm, fun _ => ⟨g, 0, rfl, fun j hj => ?_⟩, fun _ => ⟨g, rfl, hb, (Array.getElem?_eq_some_iff.1 hg).1⟩⟩
    have := h.cells (g := g) rfl j _ (bcs_getElem? ys j hj)
    rw [Addr.add_lit] at this
    exact this

theorem append_bcs (xs : List UInt8) (c : UInt8) : bcs xs ++ [.int .u8 (c.toNat : Int)] = bcs (xs ++ [c]) := by simp [bcs, bc]

/-- bytes from anywhere (none, too) behind a row of one's own -/
theorem wpList_append_bytes {w : World} {ops : Array Oper} {rest : List Oper} {o : Oper} {a : Act} {Q : Exit → Act → World → Prop} (hgd : o.guard = none) (s x : Operand)
    (ho : o.op = .call { callee := .builtin .append, args := #[s, x], argTypes := #[64, 64] })
    (base : Nat) (v : Value) (n : Nat) (xs : List Value) (hs : a.eval s = v) (hown : w.ownsRow base 5 1 v n xs)
    (ao : Option Addr) (m c : Nat) (ys : List UInt8) (hx : a.eval x = .slice ao m c) (hl : ys.length = m) (hr : Rd w ao ys) (hnil : ao = none → c = 0) (hb : n + m ≤ 140737488355328) (hbase : base ≤ w.heap.size)
    (h : ∀ v' w', w'.ownsRow base 5 1 v' (n + m) (xs ++ bcs ys) → w.grownBy w' v.ownBlock → wpList Try.prog ops Q rest (a.put o.dst v') w') : wpList Try.prog ops Q (o :: rest) a w := by
  obtain ⟨i0, hi, hz0, hz1, hz2⟩ := info_parts info5
  cases ao with
  | none =>
    obtain rfl := hnil rfl
    have h0 : ys.length = 0 := by
      apply Decidable.byContradiction
      intro h'
      obtain ⟨_, _, h', _⟩ := hr (by omega)
      simp at h'
    obtain rfl : ys = [] := List.eq_nil_of_length_eq_zero h0
    obtain rfl : m = 0 := hl.symm
    exact wpList_append_own_none hgd s x 64 ho base 5 i0 1 Try.underlying64 hi v n xs hs hown hx (h v w (by simpa [bcs] using hown) (World.grownBy.refl _ _))
  | some ad =>
    refine wpList_append_own w hgd s x 64 ho base 5 i0 (.int .u8 0) 1 1 Try.underlying64 hi hz0 hz1 hz2 rfl (by decide) v n xs hs hown ad m c (bcs ys) hx (by rw [bcs_length]; omega) ?_ (bcs_oneCell ys) (by unfold maxLen; omega) (by omega) hbase (fun v' w' h1 h2 _ => h v' w' h1 h2)
    intro j u hj
    have hj' : j < ys.length := by have := (List.getElem?_eq_some_iff.1 hj).1; simpa [bcs_length] using this
    rw [bcs_getElem? ys j hj'] at hj
    obtain ⟨b, o', he, hc⟩ := hr (by omega)
    obtain rfl := Option.some.inj he
    rw [Addr.add_lit, hc j hj']
    exact hj

theorem Rd.head {w : World} {a : Option Addr} {xs ys : List UInt8} (h : Rd w a (xs ++ ys)) : Rd w a xs := fun hp => by
  obtain ⟨b, o, ha, hc⟩ := h (by simp; omega)
  refine ⟨b, o, ha, fun j hj => ?_⟩
  rw [hc j (by simp; omega), List.getElem_append_left hj]

end Go.Proofs.Ytglahlbponlepaa.Dk


/-
  A disk in plain lists: what its calls do. No program is named here.
-/
namespace Go.Proofs.Ytglahlbponlepaa.Dk

/-- xs upon l, from off on -/
def putAt {α : Type} (l : List α) (off : Nat) (xs : List α) : List α := l.take off ++ (xs ++ l.drop (off + xs.length))
theorem putAt_length {α : Type} (l : List α) (off : Nat) (xs : List α) (h : off + xs.length ≤ l.length) : (putAt l off xs).length = l.length := by
  simp [putAt]; omega
theorem putAt_get {α : Type} (l : List α) (off : Nat) (xs : List α) (h : off + xs.length ≤ l.length) (i : Nat) : (putAt l off xs)[i]? = if off ≤ i ∧ i < off + xs.length then xs[i - off]? else l[i]? := by
  unfold putAt
  have hlo : (l.take off).length = off := by simp; omega
  by_cases h1 : i < off
  · rw [List.getElem?_append_left (by omega), if_neg (by omega), List.getElem?_take, if_pos h1]
  · rw [List.getElem?_append_right (by omega), hlo]
    by_cases h2 : i < off + xs.length
    · rw [if_pos ⟨by omega, h2⟩, List.getElem?_append_left (by omega)]
    · rw [if_neg (by omega), List.getElem?_append_right (by omega), List.getElem?_drop]
      congr 1
      omega

def bit (m s : Nat) : Bool := m / 2 ^ s % 2 == 1
/-- sector s of a block's bytes -/
def sec (data : List UInt8) (s : Nat) : List UInt8 := (data.drop (s * 512)).take 512
theorem sec_length (data : List UInt8) (s : Nat) (hd : data.length = 4096) (hs : s < 8) : (sec data s).length = 512 := by simp [sec]; omega
/-- the first k sectors of data upon block b, those of which the bit is set -/
def carryN (d : List UInt8) (b : Nat) (data : List UInt8) (m : Nat) : Nat → List UInt8
  | 0 => d
  | k + 1 => if bit m k then putAt (carryN d b data m k) (b * 4096 + k * 512) (sec data k) else carryN d b data m k
def carry (d : List UInt8) (b : Nat) (data : List UInt8) (m : Nat) : List UInt8 := carryN d b data m 8

theorem carryN_length (d : List UInt8) (b : Nat) (data : List UInt8) (m : Nat) (hb : b * 4096 + 4096 ≤ d.length) (hd : data.length = 4096) : ∀ k, k ≤ 8 → (carryN d b data m k).length = d.length
  | 0, _ => rfl
  | k + 1, hk => by
    have ih := carryN_length d b data m hb hd k (by omega)
    unfold carryN
    split
    · rw [putAt_length _ _ _ (by rw [ih, sec_length data k hd (by omega)]; omega), ih]
    · exact ih
theorem carry_length (d : List UInt8) (b : Nat) (data : List UInt8) (m : Nat) (hb : b * 4096 + 4096 ≤ d.length) (hd : data.length = 4096) : (carry d b data m).length = d.length := carryN_length d b data m hb hd 8 (by omega)

theorem carryN_get (d : List UInt8) (b : Nat) (data : List UInt8) (m : Nat) (hb : b * 4096 + 4096 ≤ d.length) (hd : data.length = 4096) (i : Nat) : ∀ k, k ≤ 8 →
    (carryN d b data m k)[i]? = if b * 4096 ≤ i ∧ i < b * 4096 + k * 512 ∧ bit m ((i - b * 4096) / 512) = true then data[i - b * 4096]? else d[i]?
  | 0, _ => by
    unfold carryN
    rw [if_neg (by omega)]
  | k + 1, hk => by
    have ih := carryN_get d b data m hb hd i k (by omega)
    have hl := carryN_length d b data m hb hd k (by omega)
    have hs := sec_length data k hd (by omega)
    unfold carryN
    by_cases hin : b * 4096 + k * 512 ≤ i ∧ i < b * 4096 + k * 512 + 512
    · have c1 : b * 4096 ≤ i := Nat.le_trans (Nat.le_add_right (b * 4096) (k * 512)) hin.1
      have hq : (i - b * 4096) / 512 = k := by omega
      have c2 : i < b * 4096 + (k + 1) * 512 := by omega
      have c4 : b * 4096 + k * 512 + 512 ≤ d.length := by clear hq c2 ih hl hs hd hin c1; omega
      have c5 : i - (b * 4096 + k * 512) < 512 := by omega
      have c6 : k * 512 + (i - (b * 4096 + k * 512)) = i - b * 4096 := by omega
      have c7 : ¬ i < b * 4096 + k * 512 := by omega
      split
      · rename_i hbit
        have c3 : bit m ((i - b * 4096) / 512) = true := by rw [hq]; exact hbit
        have hcond : b * 4096 ≤ i ∧ i < b * 4096 + (k + 1) * 512 ∧ bit m ((i - b * 4096) / 512) = true := ⟨c1, c2, c3⟩
        rw [putAt_get _ _ _ (by rw [hl, hs]; exact c4), hs, if_pos hin, if_pos hcond]
        unfold sec
        rw [List.getElem?_take, if_pos c5, List.getElem?_drop, c6]
      · rename_i hbit
        rw [ih, if_neg (fun h => c7 h.2.1), if_neg (by rw [hq]; rintro ⟨_, _, h⟩; exact hbit h)]
    · have e : (if b * 4096 ≤ i ∧ i < b * 4096 + k * 512 ∧ bit m ((i - b * 4096) / 512) = true then data[i - b * 4096]? else d[i]?) = (if b * 4096 ≤ i ∧ i < b * 4096 + (k + 1) * 512 ∧ bit m ((i - b * 4096) / 512) = true then data[i - b * 4096]? else d[i]?) := by
        by_cases h1 : b * 4096 ≤ i ∧ i < b * 4096 + k * 512
        · by_cases hbt : bit m ((i - b * 4096) / 512) = true
          · rw [if_pos ⟨h1.1, h1.2, hbt⟩, if_pos ⟨h1.1, by omega, hbt⟩]
          · rw [if_neg (fun h => hbt h.2.2), if_neg (fun h => hbt h.2.2)]
        · rw [if_neg (fun h => h1 ⟨h.1, h.2.1⟩), if_neg (fun h => by have h2 := h.1; have h3 := h.2.1; omega)]
      split
      · rw [putAt_get _ _ _ (by rw [hl, hs]; omega), hs, if_neg (by omega), ih, e]
      · rw [ih, e]
theorem carry_get (d : List UInt8) (b : Nat) (data : List UInt8) (m : Nat) (hb : b * 4096 + 4096 ≤ d.length) (hd : data.length = 4096) (i : Nat) :
    (carry d b data m)[i]? = if b * 4096 ≤ i ∧ i < b * 4096 + 4096 ∧ bit m ((i - b * 4096) / 512) = true then data[i - b * 4096]? else d[i]? := carryN_get d b data m hb hd i 8 (by omega)

/-- block n of an image -/
def blk (d : List UInt8) (n : Nat) : List UInt8 := (d.drop (n * 4096)).take 4096
theorem blk_get (d : List UInt8) (n i : Nat) : (blk d n)[i]? = if i < 4096 then d[n * 4096 + i]? else none := by
  unfold blk
  rw [List.getElem?_take]
  split
  · rw [List.getElem?_drop]
  · rfl
theorem blk_length (d : List UInt8) (n : Nat) (h : n * 4096 + 4096 ≤ d.length) : (blk d n).length = 4096 := by simp [blk]; omega

theorem bit_all (s : Nat) (h : s < 8) : bit 255 s = true := by
  match s, h with
  | 0, _ => rfl
  | 1, _ => rfl
  | 2, _ => rfl
  | 3, _ => rfl
  | 4, _ => rfl
  | 5, _ => rfl
  | 6, _ => rfl
  | 7, _ => rfl

structure Fuse where
  set : Bool
  left : Nat
deriving DecidableEq, Inhabited
def Fuse.then (f : Fuse) : Fuse := if f.set then (if 0 < f.left then ⟨true, f.left - 1⟩ else ⟨false, 0⟩) else f
def Fuse.stops (f : Fuse) : Bool := f.set && decide (f.left = 0)

structure DS where
  nb : Nat
  dur : List UInt8
  uf : List (Nat × List UInt8)
  n : Nat
  gone : Bool
  arm : Fuse
  fail : Fuse

/-- an operation goes by: the disk then -/
def DS.oper (D : DS) : DS := if D.gone then D else { D with gone := D.arm.stops, arm := D.arm.then, fail := D.fail.then }
/-- why it may not be done -/
def DS.operE (D : DS) : Nat := if D.gone then 6 else if D.arm.stops then 6 else if D.fail.stops then 4 else 0

/-- the first k unflushed writes, carried out -/
def carryTo (uf : List (Nat × List UInt8)) (d : List UInt8) : Nat → List UInt8
  | 0 => d
  | k + 1 => match uf[k]? with
    | some w => carry (carryTo uf d k) w.1 w.2 255
    | none => carryTo uf d k
def keeps (keep : List Bool) (k : Nat) : Bool := keep[k]?.getD false
def crashTo (keep : List Bool) (torn : Int) (m : Nat) (uf : List (Nat × List UInt8)) (d : List UInt8) : Nat → List UInt8
  | 0 => d
  | k + 1 => match uf[k]? with
    | some w => if (k : Int) = torn then carry (crashTo keep torn m uf d k) w.1 w.2 m else if keeps keep k then carry (crashTo keep torn m uf d k) w.1 w.2 255 else crashTo keep torn m uf d k
    | none => crashTo keep torn m uf d k
/-- of the first k writes the last one of block n -/
def lastOf (uf : List (Nat × List UInt8)) (n : Nat) : Nat → Option (List UInt8)
  | 0 => none
  | k + 1 => match uf[k]? with
    | some w => if w.1 = n then some w.2 else lastOf uf n k
    | none => lastOf uf n k
def DS.stand (D : DS) (n : Nat) : List UInt8 := (lastOf D.uf n D.uf.length).getD (blk D.dur n)
def DS.image (D : DS) : List UInt8 := carryTo D.uf D.dur D.uf.length
def DS.crash (D : DS) (keep : List Bool) (torn : Int) (m : Nat) : DS := { D with dur := crashTo keep torn m D.uf D.dur D.uf.length, uf := [], gone := false, arm := ⟨false, 0⟩, fail := ⟨false, 0⟩ }
def DS.flush (D : DS) : DS := if D.operE = 0 then { D.oper with dur := D.image, uf := [] } else D.oper
def DS.has (D : DS) (n : Int) : Bool := decide (0 ≤ n) && decide (n < D.nb)
def DS.write (D : DS) (n : Int) (b : List UInt8) : DS := if D.has n && decide (b.length = 4096) then (if D.operE = 0 then { D.oper with uf := D.uf ++ [(n.toNat, b)], n := D.n + 1 } else D.oper) else D
def DS.writeE (D : DS) (n : Int) (b : List UInt8) : Nat := if D.has n then (if b.length = 4096 then D.operE else 2) else 70
def DS.readE (D : DS) (n : Int) : Nat := if D.has n then (if D.gone then 6 else 0) else 70
def DS.new (nb : Nat) (d : List UInt8) : DS := ⟨nb, d, [], 0, false, ⟨false, 0⟩, ⟨false, 0⟩⟩
def DS.copy (D : DS) : DS := { D with n := 0 }

/-- what holds of every disk -/
structure DS.Ok (D : DS) : Prop where
  len : D.dur.length = D.nb * 4096
  lo : 1 ≤ D.nb
  hi : D.nb ≤ 512
  each : ∀ p ∈ D.uf, p.1 < D.nb ∧ p.2.length = 4096
  arm : D.arm.left < 9223372036854775808
  fail : D.fail.left < 9223372036854775808

theorem DS.Ok.at {D : DS} (h : D.Ok) (k : Nat) (hk : k < D.uf.length) : D.uf[k].1 < D.nb ∧ D.uf[k].2.length = 4096 := h.each _ (List.getElem_mem hk)
theorem DS.Ok.room {D : DS} (h : D.Ok) {n : Nat} (hn : n < D.nb) : n * 4096 + 4096 ≤ D.dur.length := by rw [h.len]; omega

theorem carryTo_length (D : DS) (h : D.Ok) (d : List UInt8) (hd : d.length = D.dur.length) : ∀ k, (carryTo D.uf d k).length = d.length
  | 0 => rfl
  | k + 1 => by
    have ih := carryTo_length D h d hd k
    unfold carryTo
    cases e : D.uf[k]? with
    | none => exact ih
    | some w =>
      obtain ⟨hk, rfl⟩ := List.getElem?_eq_some_iff.1 e
      obtain ⟨h1, h2⟩ := h.at k hk
      show (carry _ _ _ _).length = _
      rw [carry_length _ _ _ _ (by rw [ih, hd]; exact h.room h1) h2, ih]
theorem crashTo_length (D : DS) (h : D.Ok) (keep : List Bool) (torn : Int) (m : Nat) : ∀ k, (crashTo keep torn m D.uf D.dur k).length = D.dur.length
  | 0 => rfl
  | k + 1 => by
    have ih := crashTo_length D h keep torn m k
    unfold crashTo
    cases e : D.uf[k]? with
    | none => exact ih
    | some w =>
      obtain ⟨hk, rfl⟩ := List.getElem?_eq_some_iff.1 e
      obtain ⟨h1, h2⟩ := h.at k hk
      show (if _ then carry _ _ _ _ else if _ then carry _ _ _ _ else _).length = _
      split
      · rw [carry_length _ _ _ _ (by rw [ih]; exact h.room h1) h2, ih]
      · split
        · rw [carry_length _ _ _ _ (by rw [ih]; exact h.room h1) h2, ih]
        · exact ih
theorem carryTo_succ (uf : List (Nat × List UInt8)) (d : List UInt8) (k : Nat) (hk : k < uf.length) : carryTo uf d (k + 1) = carry (carryTo uf d k) uf[k].1 uf[k].2 255 := by
  rw [carryTo, List.getElem?_eq_getElem hk]
theorem crashTo_succ (keep : List Bool) (torn : Int) (m : Nat) (uf : List (Nat × List UInt8)) (d : List UInt8) (k : Nat) (hk : k < uf.length) : crashTo keep torn m uf d (k + 1) = if (k : Int) = torn then carry (crashTo keep torn m uf d k) uf[k].1 uf[k].2 m else if keeps keep k then carry (crashTo keep torn m uf d k) uf[k].1 uf[k].2 255 else crashTo keep torn m uf d k := by
  rw [crashTo, List.getElem?_eq_getElem hk]
theorem lastOf_succ (uf : List (Nat × List UInt8)) (n k : Nat) (hk : k < uf.length) : lastOf uf n (k + 1) = if uf[k].1 = n then some uf[k].2 else lastOf uf n k := by
  rw [lastOf, List.getElem?_eq_getElem hk]

theorem Fuse.then_lt (f : Fuse) (h : f.left < 9223372036854775808) : f.then.left < 9223372036854775808 := by
  unfold Fuse.then
  split
  · split
    · show f.left - 1 < _; omega
    · show 0 < _; omega
  · exact h
theorem DS.Ok.oper {D : DS} (h : D.Ok) : D.oper.Ok := by
  unfold DS.oper
  split
  · exact h
  · exact ⟨h.len, h.lo, h.hi, h.each, Fuse.then_lt _ h.arm, Fuse.then_lt _ h.fail⟩
theorem DS.oper_nb (D : DS) : D.oper.nb = D.nb := by unfold DS.oper; split <;> rfl
theorem DS.oper_dur (D : DS) : D.oper.dur = D.dur := by unfold DS.oper; split <;> rfl
theorem DS.oper_uf (D : DS) : D.oper.uf = D.uf := by unfold DS.oper; split <;> rfl
theorem DS.oper_n (D : DS) : D.oper.n = D.n := by unfold DS.oper; split <;> rfl
theorem DS.Ok.flush {D : DS} (h : D.Ok) : D.flush.Ok := by
  unfold DS.flush
  split
  · have ho := h.oper
    refine ⟨?_, ho.lo, ho.hi, by simp, ho.arm, ho.fail⟩
    show (carryTo _ _ _).length = _
    rw [carryTo_length D h D.dur rfl, h.len, DS.oper_nb]
  · exact h.oper
theorem DS.Ok.crash {D : DS} (h : D.Ok) (keep : List Bool) (torn : Int) (m : Nat) : (D.crash keep torn m).Ok :=
  ⟨by show (crashTo _ _ _ _ _ _).length = _; rw [crashTo_length D h, h.len]; rfl, h.lo, h.hi, by simp [DS.crash], by simp [DS.crash], by simp [DS.crash]⟩
theorem DS.Ok.write {D : DS} (h : D.Ok) (n : Int) (b : List UInt8) : (D.write n b).Ok := by
  unfold DS.write
  split
  · rename_i hc
    simp only [DS.has, Bool.and_eq_true, decide_eq_true_eq] at hc
    split
    · have ho := h.oper
      refine ⟨ho.len, ho.lo, ho.hi, ?_, ho.arm, ho.fail⟩
      intro p hp
      show p.1 < D.oper.nb ∧ _
      rw [DS.oper_nb]
      rcases List.mem_append.1 hp with hp | hp
      · exact h.each p hp
      · simp at hp
        subst hp
        exact ⟨by omega, hc.2⟩
    · exact h.oper
  · exact h
theorem DS.Ok.new {nb : Nat} {d : List UInt8} (h : d.length = nb * 4096) (h1 : 1 ≤ nb) (h2 : nb ≤ 512) : (DS.new nb d).Ok := ⟨h, h1, h2, by simp [DS.new], by simp [DS.new], by simp [DS.new]⟩
theorem DS.Ok.copy {D : DS} (h : D.Ok) : D.copy.Ok := ⟨h.len, h.lo, h.hi, h.each, h.arm, h.fail⟩
end Go.Proofs.Ytglahlbponlepaa.Dk

/-
  A disk in memory: which blocks are its own, what they hold, and what of the world a call on it may turn.
-/
namespace Go.Proofs.Ytglahlbponlepaa.Dk
open Go.RowKit

/-! ### one block -/
/-- a block that was made for one value -/
def Box (w : World) (g : Nat) (cs : Array Value) (t : TypeId) : Prop := w.heap[g]? = some (.cells cs t (0, 0))
theorem Box.cell {w : World} {g : Nat} {cs : Array Value} {t : TypeId} (h : Box w g cs t) (j : Nat) : w.cell? ⟨g, j, none⟩ = cs[j]? := cell_of_row w g j cs t (0, 0) h
theorem Box.frozen {w : World} {g : Nat} {cs : Array Value} {t : TypeId} (h : Box w g cs t) (j : Nat) : w.frozen? ⟨g, j, none⟩ = false := frozen_of_row w g j cs t h
theorem Box.lt {w : World} {g : Nat} {cs : Array Value} {t : TypeId} (h : Box w g cs t) : g < w.heap.size := (Array.getElem?_eq_some_iff.1 h).1
theorem Box.below {w w' : World} {g : Nat} {cs : Array Value} {t : TypeId} (h : Box w g cs t) (hb : Below w.heap.size w w') : Box w' g cs t := (hb.block g h.lt).trans h
theorem Box.new (w : World) (cs : Array Value) (t : TypeId) : Box (w.alloc (.cells cs t)) w.heap.size cs t := heap_alloc_new w _
theorem Box.alloc {w : World} {g : Nat} {cs : Array Value} {t : TypeId} (h : Box w g cs t) (o : Obj) : Box (w.alloc o) g cs t := (Below.heap_alloc w o g h.lt).trans h
theorem Box.store {w : World} {g : Nat} {cs : Array Value} {t : TypeId} (h : Box w g cs t) (j : Nat) (v : Value) : Box (w.setCell ⟨g, j, none⟩ v) g (cs.setIfInBounds j v) t := heap_setCell_same w g j cs t v h
theorem Box.ne {w : World} {g g' : Nat} {cs cs' : Array Value} {t t' : TypeId} (h : Box w g cs t) (h' : Box w g' cs' t') (ht : t ≠ t') : g ≠ g' := by
  intro e
  subst e
  unfold Box at h h'
  rw [h] at h'
  simp at h'
  exact ht h'.2

/-- Bytes, with room behind them of which nothing is said. -/
def RowB (w : World) (g cap : Nat) (ys : List UInt8) : Prop := ∃ cur : Array Value, Box w g cur 5 ∧ ys.length ≤ cap ∧ cap ≤ maxLen ∧ cur.size = cap ∧ cur.toList.take ys.length = bcs ys
theorem RowB.lt {w : World} {g cap : Nat} {ys : List UInt8} (h : RowB w g cap ys) : g < w.heap.size := by obtain ⟨cur, h, _⟩ := h; exact h.lt
theorem RowB.rd {w : World} {g cap : Nat} {ys : List UInt8} (h : RowB w g cap ys) : Rd w (some ⟨g, 0, none⟩) ys := by
  obtain ⟨cur, h, _, _, _, ht⟩ := h
  intro _
  refine ⟨g, 0, rfl, fun j hj => ?_⟩
  rw [Nat.zero_add, h.cell j]
  have h1 := bcs_getElem? ys j hj
  rw [← ht, List.getElem?_take] at h1
  rw [if_pos hj] at h1
  simpa using h1
theorem RowB.same {w w' : World} {g cap : Nat} {ys : List UInt8} (h : RowB w g cap ys) (hb : w'.heap[g]? = w.heap[g]?) : RowB w' g cap ys := by
  obtain ⟨cur, h, r⟩ := h
  exact ⟨cur, hb.trans h, r⟩
theorem RowB.own {w : World} {g : Nat} {ys : List UInt8} (h : Own w g ys) (hm : ys.length ≤ maxLen) : RowB w g ys.length ys :=
  ⟨(bcs ys).toArray, h, Nat.le_refl _, hm, by simp [bcs_length], by rw [List.take_of_length_le (by simp [bcs_length])]⟩
theorem RowB.owns {w : World} {B n : Nat} {v : Value} {ys : List UInt8} (h : w.ownsRow B 5 1 v n (bcs ys)) (h0 : 0 < n) : ∃ g cap, v = .slice (some ⟨g, 0, none⟩) n cap ∧ B ≤ g ∧ RowB w g cap ys := by
  have hl : ys.length = n := by have := h.1; rw [bcs_length] at this; omega
  rcases h.2 with ⟨rfl, rfl⟩ | ⟨g, cap, cur, rfl, hb, hg, hnc, hcm, hcs, ht⟩
  · omega
  · exact ⟨g, cap, rfl, hb, cur, hg, by omega, hcm, by omega, by rw [hl]; simpa using ht⟩

/-- copy of bytes onto a part of such a row -/
theorem copy_row (g cap off dLen dCap : Nat) (a : Option Addr) (sCap : Nat) (xs ys : List UInt8) (u : World) (hg : RowB u g cap ys) (hr : Rd u a xs) (hl : xs.length ≤ dLen) (hfit : off + xs.length ≤ ys.length) (h0 : 0 < xs.length) :
    ∃ W, (∀ ty, (Builtin.copy_ #[64, 64] ty #[.slice (some ⟨g, off, none⟩) dLen dCap, .slice a xs.length sCap]).run Try.prog u = .ok (goInt xs.length) W) ∧ RowB W g cap (putAt ys off xs) ∧ u.grownBy W (some g) := by
  obtain ⟨b, o, rfl, hc⟩ := hr h0
  obtain ⟨cur, hb, hlc, hm, hs, ht⟩ := hg
  refine ⟨u.setRow g (cur.toList.take off ++ bcs xs ++ cur.toList.drop (off + (bcs xs).length)).toArray, fun ty => ?_, ?_, grown_setRow _ _ _⟩
  · have h := run_copy_row (P := Try.prog) u 64 64 ty 5 g off dLen dCap ⟨b, o, none⟩ xs.length sCap cur 5 (bcs xs) Try.underlying64 size5 hb (by rw [bcs_length]; exact (Nat.min_eq_left hl).symm) (fun j v hj => by
        have hj' : j < xs.length := by have := (List.getElem?_eq_some_iff.1 hj).1; simpa [bcs_length] using this
        rw [bcs_getElem? xs j hj'] at hj
        rw [Addr.add_lit, hc j hj']
        exact hj) (by rw [bcs_length]; omega) (bcs_oneCell xs)
    rw [h, bcs_length]
  · have hpl := putAt_length ys off xs hfit
    refine ⟨_, setRow_heap u g _ _ 5 _ hb, by omega, hm, ?_, ?_⟩
    · simp [bcs_length]; omega
    · rw [hpl]
      have e1 : cur.toList.take off = bcs (ys.take off) := by
        have := congrArg (List.take off) ht
        rw [List.take_take, Nat.min_eq_left (by omega)] at this
        rw [this]; simp [bcs]
      have e2 : (cur.toList.drop (off + xs.length)).take (ys.length - (off + xs.length)) = bcs (ys.drop (off + xs.length)) := by
        have := congrArg (List.drop (off + xs.length)) ht
        rw [List.drop_take] at this
        rw [this]; simp [bcs]
      have hlt : (cur.toList.take off).length = off := by simp; omega
      have e3 : bcs (putAt ys off xs) = bcs (ys.take off) ++ (bcs xs ++ bcs (ys.drop (off + xs.length))) := by simp [putAt, bcs]
      show (cur.toList.take off ++ bcs xs ++ cur.toList.drop (off + (bcs xs).length)).take ys.length = _
      have e4 : (bcs xs).take (ys.length - off) = bcs xs := List.take_of_length_le (by rw [bcs_length]; omega)
      rw [e3, ← e1, ← e2]
      generalize hA : cur.toList.take off = A at hlt
      have e5 : A.take ys.length = A := List.take_of_length_le (by omega)
      rw [List.append_assoc, List.take_append, List.take_append, e5, hlt, e4, bcs_length, Nat.sub_sub]

/-! ### what a call may turn -/
/-- Of what was there, only blocks of F have turned. -/
structure Upd (F : Nat → Prop) (w w' : World) : Prop where
  os : w'.os = w.os
  tape : w'.tape = w.tape
  output : w'.output = w.output
  size : w.heap.size ≤ w'.heap.size
  block : ∀ k, k < w.heap.size → ¬ F k → w'.heap[k]? = w.heap[k]?
theorem Upd.refl (F : Nat → Prop) (w : World) : Upd F w w := ⟨rfl, rfl, rfl, Nat.le_refl _, fun _ _ _ => rfl⟩
theorem Upd.trans {F F' : Nat → Prop} {a b c : World} (h : Upd F a b) (k : Upd F' b c) (hF : ∀ i, F' i → F i ∨ a.heap.size ≤ i) : Upd F a c :=
  ⟨k.os.trans h.os, k.tape.trans h.tape, k.output.trans h.output, Nat.le_trans h.size k.size, fun i hi hn => (k.block i (Nat.lt_of_lt_of_le hi h.size) (fun hf => by rcases hF i hf with h1 | h1; exact hn h1; omega)).trans (h.block i hi hn)⟩
theorem Upd.of_below {F : Nat → Prop} {w w' : World} (h : Below w.heap.size w w') : Upd F w w' := ⟨h.os, h.tape, h.output, h.size, fun k hk _ => h.block k hk⟩
theorem Upd.grown {F : Nat → Prop} {a w w' : World} {row : Option Nat} (h : Upd F a w) (hg : w.grownBy w' row) (hr : ∀ k, row = some k → F k ∨ a.heap.size ≤ k) : Upd F a w' :=
  ⟨hg.os.trans h.os, hg.tape.trans h.tape, hg.output.trans h.output, Nat.le_trans h.size hg.size, fun i hi hn => (hg.block i (Nat.lt_of_lt_of_le hi h.size) (fun e => by rcases hr i e.symm with h1 | h1; exact hn h1; omega)).trans (h.block i hi hn)⟩
theorem Upd.below {F : Nat → Prop} {w w' : World} {B : Nat} (h : Upd F w w') (hF : ∀ i, F i → B ≤ i) (hB : B ≤ w.heap.size) : Below B w w' :=
  ⟨h.os, h.tape, h.output, h.size, fun k hk => h.block k (by omega) (fun hf => by have := hF k hf; omega)⟩
theorem Upd.alloc {F : Nat → Prop} {a w : World} (h : Upd F a w) (o : Obj) : Upd F a (w.alloc o) := h.grown (World.grownBy_alloc w o none) (fun k e => by cases e)
theorem Upd.setCell {F : Nat → Prop} {a w : World} (h : Upd F a w) {g j : Nat} (hg : F g ∨ a.heap.size ≤ g) (u : Value) : Upd F a (w.setCell ⟨g, j, none⟩ u) := h.grown (grown_store w g j u) (fun k e => by cases e; exact hg)
theorem Upd.drew {F : Nat → Prop} {a w : World} (h : Upd F a w) : Upd F a w.drew := ⟨h.os, h.tape, h.output, h.size, h.block⟩
theorem Upd.thenB {F : Nat → Prop} {a w w' : World} (h : Upd F a w) (k : Below w.heap.size w w') : Upd F a w' := ⟨k.os.trans h.os, k.tape.trans h.tape, k.output.trans h.output, Nat.le_trans h.size k.size, fun i hi hn => (k.block i (Nat.lt_of_lt_of_le hi h.size)).trans (h.block i hi hn)⟩
theorem Rd.upd {F : Nat → Prop} {w w' : World} {g o : Nat} {xs : List UInt8} (h : Rd w (some ⟨g, o, none⟩) xs) (hu : Upd F w w') (hg : ¬ F g) : Rd w' (some ⟨g, o, none⟩) xs := fun hp => by
  obtain ⟨b, o', ha, hc⟩ := h hp
  simp only [Option.some.injEq, Addr.mk.injEq, and_true] at ha
  obtain ⟨rfl, rfl⟩ := ha
  refine ⟨g, o, rfl, fun j hj => ?_⟩
  have hlt : g < w.heap.size := block_lt_of_cell (hc j hj)
  rw [World.cell?_of_block (a := ⟨g, o + j, none⟩) (hu.block g hlt hg)]
  exact hc j hj

/-! ### the disk -/
def wcs (ps : List (Nat × Nat × Nat)) : List Value := ps.flatMap fun p => [.int .i64 (p.1 : Int), .slice (some ⟨p.2.1, 0, none⟩) 4096 p.2.2]
theorem wcs_length (ps : List (Nat × Nat × Nat)) : (wcs ps).length = ps.length * 2 := by
  induction ps with
  | nil => rfl
  | cons p l ih => simp [wcs] at ih ⊢; omega
theorem wcs_snoc (ps : List (Nat × Nat × Nat)) (p : Nat × Nat × Nat) : wcs (ps ++ [p]) = wcs ps ++ [.int .i64 (p.1 : Int), .slice (some ⟨p.2.1, 0, none⟩) 4096 p.2.2] := by simp [wcs]
theorem wcs_at (ps : List (Nat × Nat × Nat)) (j : Nat) (h : j < ps.length) : (wcs ps)[j * 2]? = some (.int .i64 (ps[j].1 : Int)) ∧ (wcs ps)[j * 2 + 1]? = some (.slice (some ⟨ps[j].2.1, 0, none⟩) 4096 ps[j].2.2) := by
  induction ps generalizing j with
  | nil => simp at h
  | cons p l ih =>
    cases j with
    | zero => simp [wcs]
    | succ j =>
      have hj : j < l.length := by simpa using h
      obtain ⟨h0, h1⟩ := ih j hj
      have e : wcs (p :: l) = [.int .i64 (p.1 : Int), .slice (some ⟨p.2.1, 0, none⟩) 4096 p.2.2] ++ wcs l := by simp [wcs]
      rw [e]
      constructor
      · rw [List.getElem?_append_right (by simp; omega)]
        have : (j + 1) * 2 - 2 = j * 2 := by omega
        simpa [this] using h0
      · rw [List.getElem?_append_right (by simp; omega)]
        have : (j + 1) * 2 + 1 - 2 = j * 2 + 1 := by omega
        simpa [this] using h1

/-- The cells of a disk. -/
def diskC (g : Nat) (vd vu : Value) (D : DS) : Array Value :=
  #[.pointer (some ⟨g, 0, none⟩), vd, vu, .int .i64 (D.n : Int), .bool D.gone, .bool D.arm.set, .int .i64 (D.arm.left : Int), .bool D.fail.set, .int .i64 (D.fail.left : Int)]

/-- Where a disk lies: its own blocks are in F. -/
structure Lies (w : World) (g : Nat) (D : DS) (F : Nat → Prop) (gd cd : Nat) (vu : Value) (ps : List (Nat × Nat × Nat)) : Prop where
  box : Box w g (diskC g (.slice (some ⟨gd, 0, none⟩) (D.nb * 4096) cd) vu D) 82
  dur : RowB w gd cd D.dur
  row : w.ownsRow 0 103 2 vu D.uf.length (wcs ps)
  len : ps.length = D.uf.length
  each : ∀ k (h : k < ps.length) (h' : k < D.uf.length), ps[k].1 = D.uf[k].1 ∧ RowB w ps[k].2.1 ps[k].2.2 D.uf[k].2 ∧ ps[k].2.1 ≠ gd ∧ F ps[k].2.1
  fg : F g
  fd : F gd
  fu : ∀ k, vu.ownBlock = some k → F k
  flt : ∀ i, F i → i < w.heap.size
  ok : D.Ok
def IsDisk (w : World) (g : Nat) (D : DS) (F : Nat → Prop) : Prop := ∃ gd cd vu ps, Lies w g D F gd cd vu ps

theorem Lies.kept {w w' : World} {g : Nat} {D : DS} {F : Nat → Prop} {gd cd : Nat} {vu : Value} {ps : List (Nat × Nat × Nat)} (h : Lies w g D F gd cd vu ps) (hk : ∀ i, F i → w'.heap[i]? = w.heap[i]?) (hs : w.heap.size ≤ w'.heap.size) : Lies w' g D F gd cd vu ps where
  box := (hk g h.fg).trans h.box
  dur := h.dur.same (hk gd h.fd)
  row := ⟨h.row.1, by
    rcases h.row.2 with h1 | ⟨g', cap, cur, rfl, hb, hg, r⟩
    · exact .inl h1
    · exact .inr ⟨g', cap, cur, rfl, hb, (hk g' (h.fu g' rfl)).trans hg, r⟩⟩
  len := h.len
  each := fun k h1 h2 => by
    obtain ⟨a, b, c, d⟩ := h.each k h1 h2
    exact ⟨a, b.same (hk _ d), c, d⟩
  fg := h.fg
  fd := h.fd
  fu := h.fu
  flt := fun i hi => Nat.lt_of_lt_of_le (h.flt i hi) hs
  ok := h.ok
theorem IsDisk.kept {w w' : World} {g : Nat} {D : DS} {F : Nat → Prop} (h : IsDisk w g D F) (hk : ∀ i, F i → w'.heap[i]? = w.heap[i]?) (hs : w.heap.size ≤ w'.heap.size) : IsDisk w' g D F := by
  obtain ⟨gd, cd, vu, ps, h⟩ := h
  exact ⟨gd, cd, vu, ps, h.kept hk hs⟩
theorem IsDisk.flt {w : World} {g : Nat} {D : DS} {F : Nat → Prop} (h : IsDisk w g D F) : ∀ i, F i → i < w.heap.size := by obtain ⟨gd, cd, vu, ps, h⟩ := h; exact h.flt
theorem IsDisk.ok {w : World} {g : Nat} {D : DS} {F : Nat → Prop} (h : IsDisk w g D F) : D.Ok := by obtain ⟨gd, cd, vu, ps, h⟩ := h; exact h.ok
theorem IsDisk.below {w w' : World} {g : Nat} {D : DS} {F : Nat → Prop} (h : IsDisk w g D F) (hb : Below w.heap.size w w') : IsDisk w' g D F := h.kept (fun i hi => hb.block i (h.flt i hi)) hb.size
theorem Lies.below {w w' : World} {g : Nat} {D : DS} {F : Nat → Prop} {gd cd : Nat} {vu : Value} {ps : List (Nat × Nat × Nat)} (h : Lies w g D F gd cd vu ps) (hb : Below w.heap.size w w') : Lies w' g D F gd cd vu ps := h.kept (fun i hi => hb.block i (h.flt i hi)) hb.size
theorem IsDisk.upd {w w' : World} {g : Nat} {D : DS} {F G : Nat → Prop} (h : IsDisk w g D F) (hb : Upd G w w') (hd : ∀ i, F i → ¬ G i) : IsDisk w' g D F := h.kept (fun i hi => hb.block i (h.flt i hi) (hd i hi)) hb.size
end Go.Proofs.Ytglahlbponlepaa.Dk

/-
  The small functions of disk.
-/
namespace Go.Proofs.Ytglahlbponlepaa.Dk
open Go.RowKit

theorem box_cells {w : World} {g : Nat} {vd vu : Value} {D : DS} (h : Box w g (diskC g vd vu D) 82) :
    w.cell? ⟨g, 0, none⟩ = some (.pointer (some ⟨g, 0, none⟩)) ∧ w.cell? ⟨g, 1, none⟩ = some vd ∧ w.cell? ⟨g, 2, none⟩ = some vu ∧ w.cell? ⟨g, 3, none⟩ = some (.int .i64 (D.n : Int)) ∧ w.cell? ⟨g, 4, none⟩ = some (.bool D.gone) ∧ w.cell? ⟨g, 5, none⟩ = some (.bool D.arm.set) ∧ w.cell? ⟨g, 6, none⟩ = some (.int .i64 (D.arm.left : Int)) ∧ w.cell? ⟨g, 7, none⟩ = some (.bool D.fail.set) ∧ w.cell? ⟨g, 8, none⟩ = some (.int .i64 (D.fail.left : Int)) :=
  ⟨h.cell 0, h.cell 1, h.cell 2, h.cell 3, h.cell 4, h.cell 5, h.cell 6, h.cell 7, h.cell 8⟩

theorem info69 : (Try.prog.info? 82).map (fun i => (i.zero.isSome, i.size)) = some (true, 9) := by kernel_rfl
theorem point22 : Try.prog.underlying 22 = some (.pointer 82) := by kernel_rfl
theorem eqlSelf (g : Nat) (w : World) : (binOp .eql 22 (.pointer (some ⟨g, 0, none⟩)) (.pointer (some ⟨g, 0, none⟩))).run Try.prog w = .ok (.bool true) w := by
  cases h : Try.prog.info? 82 with
  | none => have := info69; rw [h] at this; cases this
  | some i => exact run_eql_ptr_same w ⟨g, 0, none⟩ point22 h
theorem eqlNone (g : Nat) (w : World) : (binOp .eql 22 (.pointer none) (.pointer (some ⟨g, 0, none⟩))).run Try.prog w = .ok (.bool false) w := by
  have h : ∀ d : Nat, (Op.equalIn (d + 1) 22 (.pointer none) (.pointer (some ⟨g, 0, none⟩))).run Try.prog w = .ok false w := fun d => by
    simp [Op.equalIn, run_underlying point22]
  simp only [binOp]
  simp [Op.equal, Op.maxDepth, h 9999]

theorem isMade_cell (g : Nat) (w : World) (h : w.cell? ⟨g, 0, none⟩ = some (.pointer (some ⟨g, 0, none⟩))) :
    Calls Try.prog 65 #[.pointer (some ⟨g, 0, none⟩)] w fun e w' => e = .returned (.bool true) ∧ w = w' := by
  have he := eqlSelf g
  go_enter Try.func65, Try.ntmps65
  go_wp2
  go_ret
  exact ⟨rfl, rfl⟩
theorem isMade_at {g : Nat} {w : World} {D : DS} {F : Nat → Prop} {gd cd : Nat} {vu : Value} {ps : List (Nat × Nat × Nat)} (h : Lies w g D F gd cd vu ps) :
    Calls Try.prog 65 #[.pointer (some ⟨g, 0, none⟩)] w fun e w' => e = .returned (.bool true) ∧ w = w' := isMade_cell g w (box_cells h.box).1
theorem isMade_none (w : World) : Calls Try.prog 65 #[.pointer none] w fun e w' => e = .returned (.bool false) ∧ w = w' := by
  go_enter Try.func65, Try.ntmps65
  go_wp2
  go_ret
  exact ⟨rfl, rfl⟩
theorem isMade_zero (g : Nat) (w : World) (h : w.cell? ⟨g, 0, none⟩ = some (.pointer none)) :
    Calls Try.prog 65 #[.pointer (some ⟨g, 0, none⟩)] w fun e w' => e = .returned (.bool false) ∧ w = w' := by
  have he := eqlNone g
  go_enter Try.func65, Try.ntmps65
  go_wp2
  go_ret
  exact ⟨rfl, rfl⟩

theorem rightSize_at (n : Int) (w : World) : Calls Try.prog 52 #[.int .i64 n] w fun e w' => e = .returned (.bool (decide (1 ≤ n) && decide (n ≤ 512))) ∧ w = w' := by
  by_cases h : 1 ≤ n
  · go_enter Try.func52, Try.ntmps52
    go_wp2
    go_ret
    simp [h]
  · go_enter Try.func52, Try.ntmps52
    go_wp2
    go_ret
    simp
    omega

theorem size_at {g : Nat} {w : World} {D : DS} {F : Nat → Prop} {gd cd : Nat} {vu : Value} {ps : List (Nat × Nat × Nat)} (h : Lies w g D F gd cd vu ps) :
    Calls Try.prog 45 #[.pointer (some ⟨g, 0, none⟩)] w fun e w' => e = .returned (.int .i64 (D.nb : Int)) ∧ w = w' := by
  obtain ⟨_, h1, _⟩ := box_cells h.box
  have hi := h.ok.hi
  have c := isMade_at h
  go_enter Try.func45, Try.ntmps45
  go_wp2_with fail
  refine c.mono ?_
  rintro e w' ⟨rfl, rfl⟩
  have e2 : ((D.nb : Int) * 4096) / 4096 = D.nb := by omega
  go_wp2
  go_ret
  exact ⟨by simp, rfl⟩

theorem has_at {g : Nat} {w : World} {D : DS} {F : Nat → Prop} {gd cd : Nat} {vu : Value} {ps : List (Nat × Nat × Nat)} (h : Lies w g D F gd cd vu ps) (n : Int) :
    Calls Try.prog 80 #[.pointer (some ⟨g, 0, none⟩), .int .i64 n] w fun e w' => e = .returned (.bool (D.has n)) ∧ w = w' := by
  have c := size_at h
  unfold DS.has
  by_cases h0 : 0 ≤ n
  · go_enter Try.func80, Try.ntmps80
    go_wp2_with fail
    refine c.mono ?_
    rintro e w' ⟨rfl, rfl⟩
    go_wp2
    go_ret
    simp [h0]
  · go_enter Try.func80, Try.ntmps80
    go_wp2
    go_ret
    simp
    omega

/-- number n of the parts of so many bytes -/
theorem part_at (g o len cap n size : Nat) (w : World) (hf : n * size + size ≤ cap) (hc : cap ≤ 9223372036854775807) (hs : 0 < size) :
    Calls Try.prog 89 #[.slice (some ⟨g, o, none⟩) len cap, .int .i64 n, .int .i64 size] w fun e w' => e = .returned (.slice (some ⟨g, o + n * size, none⟩) size size) ∧ w = w' := by
  obtain ⟨M, hM⟩ : ∃ M, M = n * size := ⟨_, rfl⟩
  have e1 : (n : Int) * (size : Int) = (M : Int) := by rw [hM]; push_cast; rfl
  rw [← hM] at hf ⊢
  clear hM
  have h1 : (M : Int) + size ≤ cap := by omega
  have e2 : M + size - M = size := by omega
  go_enter Try.func89, Try.ntmps89
  go_wp2
  go_ret
  rw [e2]
  exact ⟨rfl, rfl⟩
end Go.Proofs.Ytglahlbponlepaa.Dk

/-
  A journal in memory, and the small functions of journal.
-/
namespace Go.Proofs.Ytglahlbponlepaa.J
open Go.RowKit
open Go.Proofs.Ytglahlbponlepaa.Dk (Box)

/-- what a journal keeps, its disk and the list of its groups' sizes aside -/
structure JS where
  log : Int
  epoch : Int
  next : Int
  synced : Int
  S : Int
  T : Int
  U : Int
  H : Int
  broken : Bool

/-- a journal's cells: its own place, its disk's, and the list of sizes -/
def jC (g dg : Nat) (vs : Value) (J : JS) : Array Value :=
  #[.pointer (some ⟨g, 0, none⟩), .pointer (some ⟨dg, 0, none⟩), .int .i64 J.log, .int .i64 J.epoch, .int .i64 J.next, .int .i64 J.synced, .int .i64 J.S, .int .i64 J.T, .int .i64 J.U, .int .i64 J.H, vs, .bool J.broken]

theorem box_cells {w : World} {g dg : Nat} {vs : Value} {J : JS} (h : Box w g (jC g dg vs J) 47) :
    w.cell? ⟨g, 0, none⟩ = some (.pointer (some ⟨g, 0, none⟩)) ∧ w.cell? ⟨g, 1, none⟩ = some (.pointer (some ⟨dg, 0, none⟩)) ∧ w.cell? ⟨g, 2, none⟩ = some (.int .i64 J.log) ∧ w.cell? ⟨g, 3, none⟩ = some (.int .i64 J.epoch) ∧ w.cell? ⟨g, 4, none⟩ = some (.int .i64 J.next) ∧ w.cell? ⟨g, 5, none⟩ = some (.int .i64 J.synced) ∧ w.cell? ⟨g, 6, none⟩ = some (.int .i64 J.S) ∧ w.cell? ⟨g, 7, none⟩ = some (.int .i64 J.T) ∧ w.cell? ⟨g, 8, none⟩ = some (.int .i64 J.U) ∧ w.cell? ⟨g, 9, none⟩ = some (.int .i64 J.H) ∧ w.cell? ⟨g, 10, none⟩ = some vs ∧ w.cell? ⟨g, 11, none⟩ = some (.bool J.broken) :=
  ⟨h.cell 0, h.cell 1, h.cell 2, h.cell 3, h.cell 4, h.cell 5, h.cell 6, h.cell 7, h.cell 8, h.cell 9, h.cell 10, h.cell 11⟩

theorem info47 : (Try.prog.info? 47).map (fun i => (i.zero.isSome, i.size)) = some (true, 12) := by kernel_rfl
theorem point23 : Try.prog.underlying 23 = some (.pointer 47) := by kernel_rfl
theorem eqlSelf (g : Nat) (w : World) : (binOp .eql 23 (.pointer (some ⟨g, 0, none⟩)) (.pointer (some ⟨g, 0, none⟩))).run Try.prog w = .ok (.bool true) w := by
  cases h : Try.prog.info? 47 with
  | none => have := info47; rw [h] at this; cases this
  | some i => exact run_eql_ptr_same w ⟨g, 0, none⟩ point23 h
theorem eqlNone (g : Nat) (w : World) : (binOp .eql 23 (.pointer none) (.pointer (some ⟨g, 0, none⟩))).run Try.prog w = .ok (.bool false) w := by
  have h : ∀ d : Nat, (Op.equalIn (d + 1) 23 (.pointer none) (.pointer (some ⟨g, 0, none⟩))).run Try.prog w = .ok false w := fun d => by
    simp [Op.equalIn, run_underlying point23]
  simp only [binOp]
  simp [Op.equal, Op.maxDepth, h 9999]

theorem isMade_cell (g : Nat) (w : World) (h : w.cell? ⟨g, 0, none⟩ = some (.pointer (some ⟨g, 0, none⟩))) :
    Calls Try.prog 39 #[.pointer (some ⟨g, 0, none⟩)] w fun e w' => e = .returned (.bool true) ∧ w = w' := by
  have he := eqlSelf g
  go_enter Try.func39, Try.ntmps39
  go_wp2
  go_ret
  exact ⟨rfl, rfl⟩
theorem isMade_none (w : World) : Calls Try.prog 39 #[.pointer none] w fun e w' => e = .returned (.bool false) ∧ w = w' := by
  go_enter Try.func39, Try.ntmps39
  go_wp2
  go_ret
  exact ⟨rfl, rfl⟩
theorem isMade_zero (g : Nat) (w : World) (h : w.cell? ⟨g, 0, none⟩ = some (.pointer none)) :
    Calls Try.prog 39 #[.pointer (some ⟨g, 0, none⟩)] w fun e w' => e = .returned (.bool false) ∧ w = w' := by
  have he := eqlNone g
  go_enter Try.func39, Try.ntmps39
  go_wp2
  go_ret
  exact ⟨rfl, rfl⟩

theorem within_at (n a b : Int) (w : World) :
    Calls Try.prog 47 #[.int .i64 n, .int .i64 a, .int .i64 b] w fun r w' => r = .returned (.bool (decide (a ≤ n ∧ n ≤ b))) ∧ w = w' := by
  by_cases h1 : a ≤ n
  · by_cases h2 : n ≤ b
    · rw [decide_eq_true ⟨h1, h2⟩]
      go_enter Try.func47, Try.ntmps47
      go_wp2
      go_ret
      exact ⟨rfl, rfl⟩
    · rw [decide_eq_false (fun h => h2 h.2)]
      go_enter Try.func47, Try.ntmps47
      go_wp2
      go_ret
      exact ⟨rfl, rfl⟩
  · rw [decide_eq_false (fun h => h1 h.1)]
    go_enter Try.func47, Try.ntmps47
    go_wp2
    go_ret
    exact ⟨rfl, rfl⟩

theorem fits_at {w : World} {g dg : Nat} {vs : Value} {J : JS} (h : Box w g (jC g dg vs J) 47) (n : Int) :
    Calls Try.prog 27 #[.pointer (some ⟨g, 0, none⟩), .int .i64 n] w fun r w' => r = .returned (.int .i64 (if J.S < n then 232 else 0)) ∧ w = w' := by
  have c6 := (box_cells h).2.2.2.2.2.2.1
  by_cases hn : J.S < n
  · rw [if_pos hn]
    go_enter Try.func27, Try.ntmps27
    go_wp2
    go_ret
    exact ⟨rfl, rfl⟩
  · rw [if_neg hn]
    go_enter Try.func27, Try.ntmps27
    go_wp2
    go_ret
    exact ⟨rfl, rfl⟩

theorem asked_ok (g : Nat) (w : World) :
    Calls Try.prog 32 #[.pointer (some ⟨g, 0, none⟩), .int .i64 0] w fun r w' => r = .returned (.int .i64 0) ∧ w = w' := by
  go_enter Try.func32, Try.ntmps32
  go_wp2
  go_ret
  exact ⟨rfl, rfl⟩

/-- the journal is none: the rest is never asked -/
theorem ahead_none (f : Value) (w : World) :
    Calls Try.prog 24 #[.pointer none, f] w fun r w' => r = .returned (.int .i64 1) ∧ w = w' := by
  go_enter Try.func24, Try.ntmps24
  go_wp2_with fail
  refine (isMade_none _).mono ?_
  rintro r w1 ⟨rfl, rfl⟩
  go_wp2_with fail
  go_ret
  exact ⟨rfl, rfl⟩
theorem ahead_zero (f : Value) (g : Nat) (w : World) (h : w.cell? ⟨g, 0, none⟩ = some (.pointer none)) :
    Calls Try.prog 24 #[.pointer (some ⟨g, 0, none⟩), f] w fun r w' => r = .returned (.int .i64 1) ∧ w = w' := by
  go_enter Try.func24, Try.ntmps24
  go_wp2_with fail
  refine (isMade_zero _ _ h).mono ?_
  rintro r w1 ⟨rfl, rfl⟩
  go_wp2_with fail
  go_ret
  exact ⟨rfl, rfl⟩
theorem ahead_broken {w : World} {g dg : Nat} {vs : Value} {J : JS} (h : Box w g (jC g dg vs J) 47) (hb : J.broken = true) (f : Value) :
    Calls Try.prog 24 #[.pointer (some ⟨g, 0, none⟩), f] w fun r w' => r = .returned (.int .i64 4) ∧ w = w' := by
  obtain ⟨c0, _, _, _, _, _, _, _, _, _, _, c11⟩ := box_cells h
  rw [hb] at c11
  go_enter Try.func24, Try.ntmps24
  go_wp2_with fail
  refine (isMade_cell _ _ c0).mono ?_
  rintro r w1 ⟨rfl, rfl⟩
  go_wp2_with fail
  go_ret
  exact ⟨rfl, rfl⟩
end Go.Proofs.Ytglahlbponlepaa.J

/-
  The calls on a journal that Open did not answer: none, or one of noughts.
-/
namespace Go.Proofs.Ytglahlbponlepaa.J
open Go.RowKit

/-- no journal, or one that lies there but was not opened -/
def NotMade (w : World) (v : Value) : Prop := v = .pointer none ∨ ∃ g, v = .pointer (some ⟨g, 0, none⟩) ∧ w.cell? ⟨g, 0, none⟩ = some (.pointer none) ∧ g < w.heap.size
theorem NotMade.below {w w' : World} {v : Value} (h : NotMade w v) (b : Below w.heap.size w w') : NotMade w' v := by
  rcases h with rfl | ⟨g, rfl, h, hg⟩
  · exact .inl rfl
  · exact .inr ⟨g, rfl, (b.cell hg).trans h, Nat.lt_of_lt_of_le hg b.size⟩
theorem isMade_no {w : World} {v : Value} (h : NotMade w v) : Calls Try.prog 39 #[v] w fun r w' => r = .returned (.bool false) ∧ w = w' := by
  rcases h with rfl | ⟨g, rfl, h, _⟩
  · exact isMade_none w
  · exact isMade_zero g w h
theorem ahead_no {w : World} {v : Value} (h : NotMade w v) (f : Value) : Calls Try.prog 24 #[v, f] w fun r w' => r = .returned (.int .i64 1) ∧ w = w' := by
  rcases h with rfl | ⟨g, rfl, h, _⟩
  · exact ahead_none f w
  · exact ahead_zero f g w h

theorem next_no {w : World} {v : Value} (h : NotMade w v) : Calls Try.prog 11 #[v] w fun r w' => r = .returned (.int .i64 0) ∧ w = w' := by
  go_enter Try.func11, Try.ntmps11
  go_wp2_with fail
  refine (isMade_no h).mono ?_
  rintro r w1 ⟨rfl, rfl⟩
  go_wp2_with fail
  go_ret
  exact ⟨rfl, rfl⟩
theorem synced_no {w : World} {v : Value} (h : NotMade w v) : Calls Try.prog 12 #[v] w fun r w' => r = .returned (.int .i64 0) ∧ w = w' := by
  go_enter Try.func12, Try.ntmps12
  go_wp2_with fail
  refine (isMade_no h).mono ?_
  rintro r w1 ⟨rfl, rfl⟩
  go_wp2_with fail
  go_ret
  exact ⟨rfl, rfl⟩
theorem tail_no {w : World} {v : Value} (h : NotMade w v) : Calls Try.prog 21 #[v] w fun r w' => r = .returned (.tuple #[.int .i64 0, .int .i64 0]) ∧ w = w' := by
  go_enter Try.func21, Try.ntmps21
  go_wp2_with fail
  refine (isMade_no h).mono ?_
  rintro r w1 ⟨rfl, rfl⟩
  go_wp2_with fail
  exact bodyPost_ret (v := .tuple #[.int .i64 0, .int .i64 0]) (by simp [results, Try.results21, go_sem]) rfl ⟨rfl, rfl⟩
theorem groups_no {w : World} {v : Value} (h : NotMade w v) : Calls Try.prog 22 #[v] w fun r w' => r = .returned (.slice none 0 0) ∧ w = w' := by
  go_enter Try.func22, Try.ntmps22
  go_wp2_with fail
  refine (isMade_no h).mono ?_
  rintro r w1 ⟨rfl, rfl⟩
  go_wp2_with fail
  go_ret
  exact ⟨rfl, rfl⟩
theorem broken_no {w : World} {v : Value} (h : NotMade w v) : Calls Try.prog 19 #[v] w fun r w' => r = .returned (.bool false) ∧ w = w' := by
  go_enter Try.func19, Try.ntmps19
  go_wp2_with fail
  refine (isMade_no h).mono ?_
  rintro r w1 ⟨rfl, rfl⟩
  go_wp2_with fail
  go_ret
  exact ⟨rfl, rfl⟩
theorem flush_no {w : World} {v : Value} (h : NotMade w v) : Calls Try.prog 9 #[v] w fun r w' => r = .returned (.int .i64 1) ∧ w = w' := by
  go_enter Try.func9, Try.ntmps9
  go_wp2_with fail
  refine (ahead_no h _).mono ?_
  rintro r w1 ⟨rfl, rfl⟩
  go_wp2_with fail
  go_ret
  exact ⟨rfl, rfl⟩
theorem ring_no {w : World} {v : Value} (h : NotMade w v) : Calls Try.prog 15 #[v] w fun r w' => r = .returned (.agg #[.int .i64 0, .int .i64 0, .int .i64 0, .int .i64 0]) ∧ Below w.heap.size w w' := by
  have B := (Below.refl w.heap.size w).alloc (Nat.le_refl _) (.cells #[.int .i64 0, .int .i64 0, .int .i64 0, .int .i64 0] 37)
  go_enter Try.func15, Try.ntmps15
  go_wp2_with fail
  refine (isMade_no (h.below B)).mono ?_
  rintro r w1 ⟨rfl, rfl⟩
  go_wp2_with fail
  exact bodyPost_ret (v := .agg #[.int .i64 0, .int .i64 0, .int .i64 0, .int .i64 0]) (by simp [results, Try.results15, go_sem]) rfl ⟨rfl, B⟩
theorem release_no {w : World} {v : Value} (h : NotMade w v) (n : Int) : Calls Try.prog 10 #[v, .int .i64 n] w fun r w' => r = .returned (.int .i64 1) ∧ Below w.heap.size w w' := by
  have B := ((Below.refl w.heap.size w).alloc (Nat.le_refl _) (.cells #[v] 23)).alloc (by simp) (.cells #[.int .i64 n] 3)
  have h' := h.below B
  clear h
  obtain ⟨p, rfl⟩ : ∃ p, v = .pointer p := by rcases h' with rfl | ⟨g, rfl, _⟩ <;> exact ⟨_, rfl⟩
  go_enter Try.func10, Try.ntmps10
  go_wp2_with fail
  refine (ahead_no h' _).mono ?_
  rintro r w1 ⟨rfl, rfl⟩
  go_wp2_with fail
  go_ret
  exact ⟨rfl, B⟩
theorem append_no {w : World} {v : Value} (h : NotMade w v) (a : Option Addr) (n c : Nat) (b : Bool) : Calls Try.prog 6 #[v, .slice a n c, .bool b] w fun r w' => r = .returned (.tuple #[.int .i64 0, .int .i64 1]) ∧ Below w.heap.size w w' := by
  have B := (((Below.refl w.heap.size w).alloc (Nat.le_refl _) (.cells #[v] 23)).alloc (by simp) (.cells #[.slice a n c] 29)).alloc (by simp; omega) (.cells #[.slice none 0 0] 55)
  have h' := h.below B
  clear h
  obtain ⟨p, rfl⟩ : ∃ p, v = .pointer p := by rcases h' with rfl | ⟨g, rfl, _⟩ <;> exact ⟨_, rfl⟩
  go_enter Try.func6, Try.ntmps6
  go_wp2_with fail
  refine (ahead_no h' _).mono ?_
  rintro r w1 ⟨rfl, rfl⟩
  go_wp2_with fail
  exact bodyPost_ret (v := .tuple #[.int .i64 0, .int .i64 1]) (by simp [results, Try.results6, go_sem]) rfl ⟨rfl, B⟩
end Go.Proofs.Ytglahlbponlepaa.J

/-
  Reserve and Cancel on a journal that Open did not answer; what a journal tells.
-/
namespace Go.Proofs.Ytglahlbponlepaa.J
open Go.RowKit
open Go.Proofs.Ytglahlbponlepaa.Dk (Box)

theorem next_at {w : World} {g dg : Nat} {vs : Value} {J : JS} (h : Box w g (jC g dg vs J) 47) :
    Calls Try.prog 11 #[.pointer (some ⟨g, 0, none⟩)] w fun r w' => r = .returned (.int .i64 J.next) ∧ w = w' := by
  obtain ⟨c0, _, _, _, c4, _, _, _, _, _, _, _⟩ := box_cells h
  go_enter Try.func11, Try.ntmps11
  go_wp2_with fail
  refine (isMade_cell g w c0).mono ?_
  rintro r w1 ⟨rfl, rfl⟩
  go_wp2_with fail
  go_ret
  exact ⟨rfl, rfl⟩
theorem synced_at {w : World} {g dg : Nat} {vs : Value} {J : JS} (h : Box w g (jC g dg vs J) 47) :
    Calls Try.prog 12 #[.pointer (some ⟨g, 0, none⟩)] w fun r w' => r = .returned (.int .i64 J.synced) ∧ w = w' := by
  obtain ⟨c0, _, _, _, _, c5, _, _, _, _, _, _⟩ := box_cells h
  go_enter Try.func12, Try.ntmps12
  go_wp2_with fail
  refine (isMade_cell g w c0).mono ?_
  rintro r w1 ⟨rfl, rfl⟩
  go_wp2_with fail
  go_ret
  exact ⟨rfl, rfl⟩
theorem broken_at {w : World} {g dg : Nat} {vs : Value} {J : JS} (h : Box w g (jC g dg vs J) 47) :
    Calls Try.prog 19 #[.pointer (some ⟨g, 0, none⟩)] w fun r w' => r = .returned (.bool J.broken) ∧ w = w' := by
  obtain ⟨c0, _, _, _, _, _, _, _, _, _, _, c11⟩ := box_cells h
  go_enter Try.func19, Try.ntmps19
  go_wp2_with fail
  refine (isMade_cell g w c0).mono ?_
  rintro r w1 ⟨rfl, rfl⟩
  go_wp2_with fail
  go_ret
  exact ⟨rfl, rfl⟩
theorem ring_at {w : World} {g dg : Nat} {vs : Value} {J : JS} (h : Box w g (jC g dg vs J) 47) :
    Calls Try.prog 15 #[.pointer (some ⟨g, 0, none⟩)] w fun r w' => r = .returned (.agg #[.int .i64 J.S, .int .i64 J.T, .int .i64 J.U, .int .i64 J.H]) ∧ Below w.heap.size w w' := by
  have B := (Below.refl w.heap.size w).alloc (Nat.le_refl _) (.cells #[.int .i64 0, .int .i64 0, .int .i64 0, .int .i64 0] 37)
  have h' := h.below B
  obtain ⟨c0, _, _, _, _, _, c6, c7, c8, c9, _, _⟩ := box_cells h'
  go_enter Try.func15, Try.ntmps15
  go_wp2_with fail
  refine (isMade_cell g _ c0).mono ?_
  rintro r w1 ⟨rfl, rfl⟩
  go_wp2_with fail
  exact bodyPost_ret (v := .agg #[.int .i64 J.S, .int .i64 J.T, .int .i64 J.U, .int .i64 J.H]) (by simp [results, Try.results15, go_sem]) rfl ⟨rfl, (Below.refl w.heap.size w).alloc (Nat.le_refl _) _⟩
theorem cancel_no {w : World} {v : Value} (h : NotMade w v) (n : Int) : Calls Try.prog 14 #[v, .int .i64 n] w fun r w' => r = .returned (.int .i64 1) ∧ Below w.heap.size w w' := by
  go_enter Try.func14, Try.ntmps14
  go_wp2_with fail
  refine (Rc.blocks_at _ _).mono ?_
  rintro r w1 ⟨rfl, rfl⟩
  have B := (Below.refl w.heap.size w).alloc (Nat.le_refl _) (.cells #[.int .i64 (Rc.blocksN n)] 3)
  go_wp2_with fail
  refine (ahead_no (h.below B) _).mono ?_
  rintro r w1 ⟨rfl, rfl⟩
  go_wp2_with fail
  go_ret
  exact ⟨rfl, B⟩
theorem reserve_no {w : World} {v : Value} (h : NotMade w v) (n : Int) : Calls Try.prog 13 #[v, .int .i64 n] w fun r w' => r = .returned (.int .i64 1) ∧ Below w.heap.size w w' := by
  obtain ⟨p, rfl⟩ : ∃ p, v = .pointer p := by rcases h with rfl | ⟨g, rfl, _⟩ <;> exact ⟨_, rfl⟩
  go_enter Try.func13, Try.ntmps13
  go_wp2_with fail
  refine (Rc.blocks_at _ _).mono ?_
  rintro r w1 ⟨rfl, rfl⟩
  have B := ((Below.refl w.heap.size w).alloc (Nat.le_refl _) (.cells #[.pointer p] 23)).alloc (by simp) (.cells #[.int .i64 (Rc.blocksN n)] 3)
  go_wp2_with fail
  refine (ahead_no (h.below B) _).mono ?_
  rintro r w1 ⟨rfl, rfl⟩
  go_wp2_with fail
  go_ret
  exact ⟨rfl, B⟩

/-- the number of the first group -/
theorem first_at {w : World} {g dg n c : Nat} {a : Option Addr} {J : JS} (h : Box w g (jC g dg (.slice a n c) J) 47) (h0 : n ≤ J.next) (h1 : J.next ≤ 549755813889) :
    Calls Try.prog 51 #[.pointer (some ⟨g, 0, none⟩)] w fun r w' => r = .returned (.int .i64 (J.next - n)) ∧ ∃ k, w' = w.drewN k := by
  obtain ⟨_, _, _, _, c4, _, _, _, _, _, c10, _⟩ := box_cells h
  go_enter Try.func51, Try.ntmps51
  go_wp2_with fail
  go_quiet (fail)
  go_wp2_with fail
  go_ret
  exact ⟨rfl, _, rfl⟩
theorem below_drewN {B : Nat} {a w : World} (h : Below B a w) (n : Nat) : Below B a (w.drewN n) := ⟨h.os, h.tape, h.output, h.size, h.block⟩
theorem tail_at {w : World} {g dg n c : Nat} {a : Option Addr} {J : JS} (h : Box w g (jC g dg (.slice a n c) J) 47) (h0 : n ≤ J.next) (h1 : J.next ≤ 549755813889) :
    Calls Try.prog 21 #[.pointer (some ⟨g, 0, none⟩)] w fun r w' => r = .returned (.tuple #[.int .i64 J.T, .int .i64 (J.next - n)]) ∧ ∃ k, w' = w.drewN k := by
  have hf : ∀ k, Calls Try.prog 51 #[.pointer (some ⟨g, 0, none⟩)] (w.drewN k) fun r w' => r = .returned (.int .i64 (J.next - n)) ∧ ∃ k', w' = (w.drewN k).drewN k' := fun k => first_at (w := w.drewN k) h h0 h1
  obtain ⟨c0, _, _, _, _, _, _, c7, _, _, _, _⟩ := box_cells h
  go_enter Try.func21, Try.ntmps21
  go_wp2_with fail
  refine (isMade_cell g w c0).mono ?_
  rintro r w1 ⟨rfl, rfl⟩
  go_wp2_with fail
  go_quiet ((go_at_call 51; exact Calls.quiet_of (hf _)))
  go_wp2_with fail
  exact bodyPost_ret (v := .tuple #[.int .i64 J.T, .int .i64 (J.next - n)]) (by simp [results, Try.results21, go_sem]) rfl ⟨rfl, _, rfl⟩
theorem asked_no {w : World} {g dg : Nat} {vs : Value} {J : JS} (h : Box w g (jC g dg vs J) 47) (e : Int) (he : e ≠ 0) :
    Calls Try.prog 32 #[.pointer (some ⟨g, 0, none⟩), .int .i64 e] w fun r w' => r = .returned (.int .i64 e) ∧ w' = w.setCell ⟨g, 11, none⟩ (.bool true) := by
  have c11 := h.cell 11
  have f11 := h.frozen 11
  unfold jC at c11
  simp at c11
  go_enter Try.func32, Try.ntmps32
  go_wp2_with fail
  go_ret
  exact ⟨rfl, rfl⟩
theorem turn_no {w : World} (v : Value) (S T U H e : Int) (he : e ≠ 0) :
    Calls Try.prog 37 #[v, .agg #[.int .i64 S, .int .i64 T, .int .i64 U, .int .i64 H], .int .i64 e] w fun r w' => r = .returned (.int .i64 e) ∧ Below w.heap.size w w' := by
  have B := (Below.refl w.heap.size w).alloc (Nat.le_refl _) (.cells #[.int .i64 S, .int .i64 T, .int .i64 U, .int .i64 H] 37)
  go_enter Try.func37, Try.ntmps37
  go_wp2_with fail
  go_ret
  exact ⟨rfl, B⟩
theorem turn_ok {w : World} {g dg : Nat} {vs : Value} {J : JS} (h : Box w g (jC g dg vs J) 47) (S T U H : Int) :
    Calls Try.prog 37 #[.pointer (some ⟨g, 0, none⟩), .agg #[.int .i64 S, .int .i64 T, .int .i64 U, .int .i64 H], .int .i64 0] w fun r w' => r = .returned (.int .i64 0) ∧ w' = ((((w.alloc (.cells #[.int .i64 S, .int .i64 T, .int .i64 U, .int .i64 H] 37)).setCell ⟨g, 6, none⟩ (.int .i64 S)).setCell ⟨g, 7, none⟩ (.int .i64 T)).setCell ⟨g, 8, none⟩ (.int .i64 U)).setCell ⟨g, 9, none⟩ (.int .i64 H) := by
  have h' := h.alloc (.cells #[.int .i64 S, .int .i64 T, .int .i64 U, .int .i64 H] 37)
  obtain ⟨_, _, _, _, _, _, c6, c7, c8, c9, _, _⟩ := box_cells h'
  have f6 := h'.frozen 6
  have f7 := h'.frozen 7
  have f8 := h'.frozen 8
  have f9 := h'.frozen 9
  go_enter Try.func37, Try.ntmps37
  go_wp2_with fail
  go_ret
  exact ⟨rfl, rfl⟩
end Go.Proofs.Ytglahlbponlepaa.J

/-
  A region that draws its order and holds loads beside calls that make memory: a load whose value is one in a whole class of frames and worlds may be taken first, if each step stays in the class.
-/
namespace Go.Proofs.Ytglahlbponlepaa.Dk

section
variable {P : Program} {ops : Array Oper} {Q : Exit → Act → World → Prop} {md : Region.Mode} {C : Act → World → Prop}

/-- Whatever order the draw gives: it ends in Q, and every step stays in the class. -/
def wpAnyC (P : Program) (md : Region.Mode) (ops : Array Oper) (Q : Exit → Act → World → Prop) (C : Act → World → Prop) : Nat → Array Bool → Act → World → Prop
  | 0, listed, a, w => Region.ready md ops listed = [] ∧ Q .normal a w
  | fuel + 1, listed, a, w => (Region.ready md ops listed = [] → Q .normal a w) ∧
    ∀ i ∈ Region.ready md ops listed, wpOp P ops Q i (fun a' w' => C a' w' ∧ wpAnyC P md ops Q C fuel (listed.setIfInBounds i true) a' w') a w

theorem wpAny_of_class : ∀ (fuel : Nat) (listed : Array Bool) (a : Act) (w : World), wpAnyC P md ops Q C fuel listed a w → wpAny P md ops Q fuel listed a w
  | 0, _, _, _, h => h
  | fuel + 1, _, _, _, h => ⟨h.1, fun i hi => wpOp_mono (fun a' w' h' => wpAny_of_class fuel _ a' w' h'.2) (h.2 i hi)⟩

/-- In all of the class the operation yields this one value, and leaves the world. -/
def Gives (P : Program) (ops : Array Oper) (C : Act → World → Prop) (o : Oper) (v : Value) : Prop :=
  ∀ a w, C a w → Region.wanted o (yielded ops a.tmps) = true ∧ (execOp a.eval o).run P w = .ok (.value v) w

theorem Gives.wpOp {i : Nat} {o : Oper} {v : Value} {a : Act} {w : World} (hi : ops[i]? = some o) (hg : Gives P ops C o v) (hc : C a w) {K : Act → World → Prop} (h : K (a.put o.dst v) w) : wpOp P ops Q i K a w := by
  obtain ⟨h1, h2⟩ := hg a w hc
  unfold Go.wpOp
  simp only [hi, h1, if_true, Oper.wp, h2, Oper.upon]
  exact .inl h

/-- the stand-in: the same slot, a constant -/
def standIn (o : Oper) (v : Value) : Oper := { o with op := .move (.const v), guard := none }
theorem standIn_yields (o : Oper) (v : Value) (a : Act) : Yields P ops (standIn o v) v a := by
  refine .inl ⟨rfl, fun w => ?_⟩
  rfl
theorem standIn_apart {o y : Oper} {v : Value} (h : o.apart ops y = true) : (standIn o v).apart ops y = true := by
  unfold Oper.apart at h ⊢
  simp only [Bool.and_eq_true] at h ⊢
  refine ⟨h.1, ?_⟩
  have e : (standIn o v).looksAt ops = [] := rfl
  rw [e]
  cases y.dst <;> rfl

theorem wpAnyC_first {i : Nat} {oi : Oper} {v : Value} (hi : ops[i]? = some oi) (hs : Region.noSelect ops = true)
    (hQ : ∀ c a w, Q (.panic c) (a.put oi.dst v) w → Q (.panic c) a w) (hg : Gives P ops C oi v) (hdn : ∀ a w, C (a.put oi.dst v) w → C a w) (hup : ∀ a w, C a w → C (a.put oi.dst v) w) :
    ∀ (fuel : Nat) (listed : Array Bool) (a : Act) (w : World),
      (∀ j oj, ops[j]? = some oj → j ≠ i → listed.getD j true = false → (∀ e ∈ oj.after, Region.binds md e = true → e.on ≠ i) → oi.apart ops oj = true) →
      i ∈ Region.ready md ops listed → C a w →
      wpAnyC P md ops Q C fuel (listed.setIfInBounds i true) (a.put oi.dst v) w → wpAnyC P md ops Q C (fuel + 1) listed a w
  | fuel, listed, a, w, hfree, hr, hc, H => by
    refine ⟨fun h => (by rw [h] at hr; cases hr), fun j hj => ?_⟩
    by_cases hji : j = i
    · subst hji
      exact hg.wpOp hi hc ⟨hup a w hc, H⟩
    · have hm := ready_mono hj hji
      cases fuel with
      | zero =>
        rw [H.1] at hm
        cases hm
      | succ fuel =>
        obtain ⟨hjun, oj, hoj, hall⟩ := mem_ready.1 hj
        have hnot : ∀ e ∈ oj.after, Region.binds md e = true → e.on ≠ i := fun e he hb heq => by
          have h1 := hall e he hb
          have h0 := (mem_ready.1 hr).1
          rw [heq] at h1
          rcases Nat.lt_or_ge i listed.size with h' | h'
          · simp [h'] at h0 h1; rw [h0] at h1; cases h1
          · simp [Array.getElem?_eq_none h'] at h1
        have h2 := wpOp_put (oi := standIn oi v) (v := v) hoj (standIn_apart (hfree j oj hoj hji hjun hnot)) (fun cs b h => by cases h) (fun cs b => Region.noSelect_spec hs j oj cs b hoj) hQ (standIn_yields oi v a) (H.2 j hm)
        have hfree' : ∀ k ok, ops[k]? = some ok → k ≠ i → (listed.setIfInBounds j true).getD k true = false →
            (∀ e ∈ ok.after, Region.binds md e = true → e.on ≠ i) → oi.apart ops ok = true := fun k ok hk hki hun hno => by
          refine hfree k ok hk hki ?_ hno
          by_cases hjk : j = k
          · subst hjk; exact hjun
          · rw [getD_set_ne true hjk] at hun; exact hun
        refine wpOp_mono (fun a' w' h3 => ?_) h2
        have hc' := hdn a' w' h3.2.1
        refine ⟨hc', wpAnyC_first hi hs hQ hg hdn hup fuel (listed.setIfInBounds j true) a' w' hfree' (ready_mono hr (Ne.symm hji)) hc' ?_⟩
        rw [Array.setIfInBounds_comm _ _ hji]
        exact h3.2.2

/-- A load is taken first. -/
theorem wpAnyC_take {i : Nat} {oi : Oper} {v : Value} {fuel : Nat} {listed : Array Bool} {a : Act} {w : World} (hi : ops[i]? = some oi) (hs : Region.noSelect ops = true)
    (hf : Region.free md ops listed i = true) (hr : (Region.ready md ops listed).contains i = true)
    (hQ : ∀ c a w, Q (.panic c) (a.put oi.dst v) w → Q (.panic c) a w) (hg : Gives P ops C oi v) (hdn : ∀ a w, C (a.put oi.dst v) w → C a w) (hup : ∀ a w, C a w → C (a.put oi.dst v) w)
    (hc : C a w) (h : wpAnyC P md ops Q C fuel (listed.setIfInBounds i true) (a.put oi.dst v) w) : wpAnyC P md ops Q C (fuel + 1) listed a w :=
  wpAnyC_first hi hs hQ hg hdn hup fuel listed a w (Region.free_spec hi hf) (by simpa using hr) hc h

/-- One operation alone may come up. -/
theorem wpAnyC_one {i : Nat} {o : Oper} {fuel : Nat} {listed : Array Bool} {a : Act} {w : World} (hr : Region.ready md ops listed = [i]) (ho : ops[i]? = some o)
    (h : ∀ K' : Act → World → Prop, (∀ a w, (C a w ∧ wpAnyC P md ops Q C fuel (listed.setIfInBounds i true) a w) → K' a w) → if Region.wanted o (yielded ops a.tmps) = true then Oper.wp P o a w K' Q else K' (a.put o.dst undef) w) :
    wpAnyC P md ops Q C (fuel + 1) listed a w := by
  refine ⟨fun h0 => (by rw [hr] at h0; cases h0), fun j hj => ?_⟩
  rw [hr] at hj
  obtain rfl : j = i := by simpa using hj
  exact wpOp_step ho h

theorem wpAnyC_done {listed : Array Bool} {a : Act} {w : World} (hr : Region.ready md ops listed = []) (h : Q .normal a w) : ∀ fuel, wpAnyC P md ops Q C fuel listed a w
  | 0 => ⟨hr, h⟩
  | _ + 1 => ⟨fun _ => h, by rw [hr]; simp⟩
/-- Two operations may come up. -/
theorem wpAnyC_two {i j : Nat} {oi oj : Oper} {fuel : Nat} {listed : Array Bool} {a : Act} {w : World} (hr : Region.ready md ops listed = [i, j]) (hi : ops[i]? = some oi) (hj : ops[j]? = some oj)
    (h1 : ∀ K' : Act → World → Prop, (∀ a w, (C a w ∧ wpAnyC P md ops Q C fuel (listed.setIfInBounds i true) a w) → K' a w) → if Region.wanted oi (yielded ops a.tmps) = true then Oper.wp P oi a w K' Q else K' (a.put oi.dst undef) w)
    (h2 : ∀ K' : Act → World → Prop, (∀ a w, (C a w ∧ wpAnyC P md ops Q C fuel (listed.setIfInBounds j true) a w) → K' a w) → if Region.wanted oj (yielded ops a.tmps) = true then Oper.wp P oj a w K' Q else K' (a.put oj.dst undef) w) :
    wpAnyC P md ops Q C (fuel + 1) listed a w := by
  refine ⟨fun h0 => (by rw [hr] at h0; cases h0), fun k hk => ?_⟩
  rw [hr] at hk
  rcases List.mem_cons.1 hk with rfl | hk
  · exact wpOp_step hi h1
  · obtain rfl : k = j := by simpa using hk
    exact wpOp_step hj h2
end

section
variable {P : Program} {ops : Array Oper} {Q : Exit → Act → World → Prop} {md : Region.Mode}
theorem wpAnyC_mono {C C' : Act → World → Prop} (hC : ∀ a w, C' a w → C a w) : ∀ (fuel : Nat) (listed : Array Bool) (a : Act) (w : World), wpAnyC P md ops Q C' fuel listed a w → wpAnyC P md ops Q C fuel listed a w
  | 0, _, _, _, h => h
  | fuel + 1, _, _, _, h => ⟨h.1, fun i hi => wpOp_mono (fun a' w' h' => ⟨hC _ _ h'.1, wpAnyC_mono hC fuel _ a' w' h'.2⟩) (h.2 i hi)⟩
end

/-- The class: these slots hold these values, these cells hold these. -/
def SlotsCells (ps : List (Nat × Value)) (qs : List (Addr × Value)) (a : Act) (u : World) : Prop := (∀ p ∈ ps, a.eval (.tmp p.1) = p.2) ∧ ∀ q ∈ qs, u.cell? q.1 = some q.2
theorem SlotsCells.put {ps : List (Nat × Value)} {qs : List (Addr × Value)} {a : Act} {u : World} (s : Nat) (v : Value) (hs : (ps.all fun p => p.1 != s) = true) :
    SlotsCells ps qs (a.put (some s) v) u ↔ SlotsCells ps qs a u := by
  have e : ∀ p ∈ ps, (a.put (some s) v).eval (.tmp p.1) = a.eval (.tmp p.1) := fun p hp => Act.eval_put (fun d hd => by
    have h1 := (List.all_eq_true.1 hs) p hp
    simp at h1 hd
    subst hd
    intro h
    injection h with h
    exact h1 h)
  constructor
  · rintro ⟨h, hb⟩
    exact ⟨fun p hp => (e p hp).symm.trans (h p hp), hb⟩
  · rintro ⟨h, hb⟩
    exact ⟨fun p hp => (e p hp).trans (h p hp), hb⟩
theorem SlotsCells.load {ps : List (Nat × Value)} {qs : List (Addr × Value)} {a : Act} {u : World} (h : SlotsCells ps qs a u) {s : Nat} {p : Addr} {v : Value} (hp : (s, Value.pointer (some p)) ∈ ps) (hq : (p, v) ∈ qs) :
    a.tmps[s]?.getD undef = .pointer (some p) ∧ u.cell? p = some v := ⟨by have := h.1 _ hp; simpa [Act.eval] using this, h.2 _ hq⟩

/-- a value of the class -/
theorem SlotsCells.val {ps : List (Nat × Value)} {qs : List (Addr × Value)} {a : Act} {u : World} (h : SlotsCells ps qs a u) {s : Nat} {v : Value} (hp : (s, v) ∈ ps) : a.tmps[s]?.getD undef = v := by have := h.1 _ hp; simpa [Act.eval] using this
end Go.Proofs.Ytglahlbponlepaa.Dk

/-
  The power of a disk: fuses, operations, Arm, Fail.
-/
namespace Go.Proofs.Ytglahlbponlepaa.Dk
open Go.RowKit

theorem set_same {cs : Array Value} {j : Nat} {v : Value} (h : cs[j]? = some v) : cs.setIfInBounds j v = cs := by
  obtain ⟨hj, rfl⟩ := Array.getElem?_eq_some_iff.1 h
  apply Array.toList_inj.1
  rw [Array.toList_setIfInBounds]
  apply List.ext_getElem?
  intro i
  by_cases e : j = i
  · subst e; simp [hj]
  · rw [List.getElem?_set_ne e]

theorem stops_at (g j : Nat) (f : Fuse) (cs : Array Value) (w : World) (hb : Box w g cs 82) (h0 : cs[j]? = some (.bool f.set)) (h1 : cs[j + 1]? = some (.int .i64 (f.left : Int))) (hf : f.left < 9223372036854775808) :
    Calls Try.prog 81 #[.pointer (some ⟨g, j, none⟩)] w fun e w' => e = .returned (.bool f.stops) ∧ Box w' g ((cs.setIfInBounds j (.bool f.then.set)).setIfInBounds (j + 1) (.int .i64 (f.then.left : Int))) 82 ∧ w.grownBy w' (some g) := by
  have c0 := hb.cell j
  have c1 := hb.cell (j + 1)
  rw [h0] at c0
  rw [h1] at c1
  have f0 := hb.frozen j
  have f1 := hb.frozen (j + 1)
  obtain ⟨s, n⟩ := f
  cases s with
  | false =>
    have e : ((cs.setIfInBounds j (.bool (Fuse.then ⟨false, n⟩).set)).setIfInBounds (j + 1) (.int .i64 ((Fuse.then ⟨false, n⟩).left : Int))) = cs := by
      show (cs.setIfInBounds j (.bool false)).setIfInBounds (j + 1) (.int .i64 (n : Int)) = cs
      rw [set_same h0, set_same h1]
    rw [e]
    go_enter Try.func81, Try.ntmps81
    go_wp2
    go_ret
    exact ⟨rfl, hb, World.grownBy.refl _ _⟩
  | true =>
    by_cases hn : 0 < n
    · have e1 : Fuse.then ⟨true, n⟩ = ⟨true, n - 1⟩ := by simp [Fuse.then, hn]
      have e2 : Fuse.stops ⟨true, n⟩ = false := by simp [Fuse.stops]; omega
      have e3 : ((n - 1 : Nat) : Int) = (n : Int) - 1 := by omega
      rw [e1, e2]
      have e4 : cs.setIfInBounds j (.bool true) = cs := set_same h0
      have hs := hb.store (j + 1) (.int .i64 ((n : Int) - 1))
      have hg := grown_store w g (j + 1) (.int .i64 ((n : Int) - 1))
      have hn' : (0 : Int) < n := by omega
      dsimp only at c1 hf
      clear h0 h1 hb e1 e2
      have E3 : Hid _ := e3
      have E4 : Hid _ := e4
      clear e3 e4
      go_enter Try.func81, Try.ntmps81
      go_wp2
      go_ret
      refine ⟨rfl, ?_, hg⟩
      show Box _ g ((cs.setIfInBounds j (.bool true)).setIfInBounds (j + 1) (.int .i64 ((n - 1 : Nat) : Int))) 82
      rw [E3.out, E4.out]
      exact hs
    · obtain rfl : n = 0 := by omega
      have hs := (hb.store j (.bool false)).store (j + 1) (.int .i64 0)
      have hg := grown_trans (grown_store w g j (.bool false)) (grown_store _ g (j + 1) (.int .i64 0))
      clear h0 h1 hb
      go_enter Try.func81, Try.ntmps81
      go_wp2
      go_ret
      exact ⟨rfl, hs, hg⟩

/-- Only the disk's own cells have turned, and of them only its numbers. -/
theorem Lies.turned {w w' : World} {g : Nat} {D D' : DS} {F : Nat → Prop} {gd cd : Nat} {vu : Value} {ps : List (Nat × Nat × Nat)} (h : Lies w g D F gd cd vu ps) (hg : w.grownBy w' (some g))
    (hb : Box w' g (diskC g (.slice (some ⟨gd, 0, none⟩) (D'.nb * 4096) cd) vu D') 82) (hd : D'.dur = D.dur) (hu : D'.uf = D.uf) (ok : D'.Ok) : Lies w' g D' F gd cd vu ps := by
  obtain ⟨cur, hcur, hrest⟩ := h.dur
  have ngd : gd ≠ g := hcur.ne h.box (by decide)
  refine ⟨hb, ?_, ?_, ?_, ?_, h.fg, h.fd, h.fu, fun i hi => Nat.lt_of_lt_of_le (h.flt i hi) hg.size, ok⟩
  · rw [hd]
    exact h.dur.same (hg.block gd hcur.lt (by simpa using ngd))
  · rw [hu]
    refine ⟨h.row.1, ?_⟩
    rcases h.row.2 with h1 | ⟨g', cap, cur', rfl, hb', hg', r⟩
    · exact .inl h1
    · have hne : g' ≠ g := Box.ne (w := w) (t := 103) hg' h.box (by decide)
      exact .inr ⟨g', cap, cur', rfl, hb', (hg.block g' (Array.getElem?_eq_some_iff.1 hg').1 (by simpa using hne)).trans hg', r⟩
  · rw [hu]; exact h.len
  · intro k h1 h2
    have h2' : k < D.uf.length := by rw [← hu]; exact h2
    obtain ⟨a, b, c, d⟩ := h.each k h1 h2'
    have e : D'.uf[k] = D.uf[k] := by simp only [hu]
    rw [e]
    obtain ⟨cur2, hb2, r2⟩ := b
    have hne : ps[k].2.1 ≠ g := hb2.ne h.box (by decide)
    exact ⟨a, RowB.same ⟨cur2, hb2, r2⟩ (hg.block _ hb2.lt (by simpa using hne)), c, d⟩

set_option maxRecDepth 100000 in
theorem operation_at {g : Nat} {w : World} {D : DS} {F : Nat → Prop} {gd cd : Nat} {vu : Value} {ps : List (Nat × Nat × Nat)} (h : Lies w g D F gd cd vu ps) :
    Calls Try.prog 66 #[.pointer (some ⟨g, 4, none⟩)] w fun e w' => e = .returned (.int .i64 (D.operE : Int)) ∧ Lies w' g D.oper F gd cd vu ps ∧ w.grownBy w' (some g) := by
  obtain ⟨_, _, _, _, c4, _⟩ := box_cells h.box
  cases hgone : D.gone with
  | true =>
    have e1 : D.operE = 6 := by simp [DS.operE, hgone]
    have e2 : D.oper = D := by simp [DS.oper, hgone]
    rw [e1, e2]
    rw [hgone] at c4
    go_enter Try.func66, Try.ntmps66
    go_wp2
    go_ret
    exact ⟨rfl, h, World.grownBy.refl _ _⟩
  | false =>
    rw [hgone] at c4
    have e0 : D.oper = { D with gone := D.arm.stops, arm := D.arm.then, fail := D.fail.then } := by simp [DS.oper, hgone]
    have e1 : D.operE = if D.arm.stops then 6 else if D.fail.stops then 4 else 0 := by simp [DS.operE, hgone]
    have hok := h.ok.oper
    rw [e0] at hok
    obtain ⟨E, hE⟩ : ∃ E, E = D.operE := ⟨_, rfl⟩
    obtain ⟨O, hO⟩ : ∃ O, O = D.oper := ⟨_, rfl⟩
    rw [← hE, ← hO]
    rw [e1] at hE
    rw [e0] at hO
    have HE : Hid _ := hE
    have HO : Hid _ := hO
    clear e0 e1 hE hO
    go_enter Try.func66, Try.ntmps66
    go_wp2_with fail
    refine wp_region_any (by kernel_rfl) ?_
    change wpAny _ _ _ _ _ _ _ (World.drew _)
    refine wpAny_take (i := 0) (v := ?_) rfl (by kernel_rfl) (by kernel_rfl) (by kernel_rfl) (fun _ _ _ h => h) (Or.inl ⟨by rfl, ?_⟩) ?_
    rotate_left
    · intro w
      go_simp
      with_reducible rfl
    refine wpAny_take (i := 1) (v := ?_) rfl (by kernel_rfl) (by kernel_rfl) (by kernel_rfl) (fun _ _ _ h => h) (Or.inl ⟨by rfl, ?_⟩) ?_
    rotate_left
    · intro w
      go_simp
      with_reducible rfl
    refine wpAny_take (i := 2) (v := ?_) rfl (by kernel_rfl) (by kernel_rfl) (by kernel_rfl) (fun _ _ _ h => h) (Or.inl ⟨by rfl, ?_⟩) ?_
    rotate_left
    · intro w
      go_simp
      with_reducible rfl
    refine wpAny_take (i := 4) (v := ?_) rfl (by kernel_rfl) (by kernel_rfl) (by kernel_rfl) (fun _ _ _ h => h) (Or.inl ⟨by rfl, ?_⟩) ?_
    rotate_left
    · intro w
      go_simp
      with_reducible rfl
    refine wpAny_take (i := 5) (v := ?_) rfl (by kernel_rfl) (by kernel_rfl) (by kernel_rfl) (fun _ _ _ h => h) (Or.inl ⟨by rfl, ?_⟩) ?_
    rotate_left
    · intro w
      go_simp
      with_reducible rfl
    refine wpAny_take (i := 6) (v := ?_) rfl (by kernel_rfl) (by kernel_rfl) (by kernel_rfl) (fun _ _ _ h => h) (Or.inl ⟨by rfl, ?_⟩) ?_
    rotate_left
    · intro w
      go_simp
      with_reducible rfl
    simp only [Act.put, List.setIfInBounds_toArray, List.set_cons_zero, List.set_cons_succ, List.getElem_toArray, List.getElem_cons_zero, List.getElem_cons_succ]
    refine wpAny_of_class (C := fun _ _ => True) _ _ _ _ ?_
    refine wpAnyC_one (i := 3) (by kernel_rfl) rfl (fun K hK => ?_)
    go_simp
    have hb0 : Box w.drew g (diskC g (.slice (some ⟨gd, 0, none⟩) (D.nb * 4096) cd) vu D) 82 := h.box
    refine (stops_at g 5 D.arm _ w.drew hb0 rfl rfl h.ok.arm).mono ?_
    rintro e w1 ⟨rfl, b1, g1⟩
    refine hK _ _ ⟨trivial, ?_⟩
    clear hK K
    refine wpAnyC_one (i := 7) (by kernel_rfl) rfl (fun K hK => ?_)
    go_simp
    refine (stops_at g 7 D.fail _ w1 b1 rfl rfl h.ok.fail).mono ?_
    rintro e w2 ⟨rfl, b2, g2⟩
    refine hK _ _ ⟨trivial, ?_⟩
    clear hK K
    have gr : w.grownBy w2 (some g) := grown_trans ⟨g1.os, g1.tape, g1.output, g1.size, g1.block⟩ g2
    have bx : Box w2 g #[.pointer (some ⟨g, 0, none⟩), .slice (some ⟨gd, 0, none⟩) (D.nb * 4096) cd, vu, .int .i64 (D.n : Int), .bool D.gone, .bool D.arm.then.set, .int .i64 (D.arm.then.left : Int), .bool D.fail.then.set, .int .i64 (D.fail.then.left : Int)] 82 := b2
    clear b1 b2 g1 g2 hb0 c4
    refine wpAnyC_mono (C' := SlotsCells [(12, .bool D.arm.stops), (16, .bool D.fail.stops)] []) (fun _ _ _ => trivial) _ _ _ _ ?_
    refine wpAnyC_take (i := 8) (v := .bool D.arm.stops) rfl (by kernel_rfl) (by kernel_rfl) (by kernel_rfl) (fun _ _ _ h => h) ?_ (fun fr u h => (SlotsCells.put 3 _ (by rfl)).1 h) (fun fr u h => (SlotsCells.put 3 _ (by rfl)).2 h) ?_ ?_
    · intro fr u hh
      have h1 := hh.val (s := 12) (v := .bool D.arm.stops) (by simp)
      exact ⟨rfl, by simp [execOp, h1, go_sem]⟩
    · refine ⟨fun p hp => ?_, fun q hq => by simp at hq⟩
      simp at hp
      rcases hp with rfl | rfl <;> rfl
    simp only [Act.put, List.setIfInBounds_toArray, List.set_cons_zero, List.set_cons_succ, List.getElem_toArray, List.getElem_cons_zero, List.getElem_cons_succ]
    refine wpAnyC_one (i := 9) (by kernel_rfl) rfl (fun K hK => ?_)
    go_simp
    refine hK _ _ ⟨?_, ?_⟩
    · refine ⟨fun p hp => ?_, fun q hq => by simp at hq⟩
      simp at hp
      rcases hp with rfl | rfl <;> rfl
    clear hK K
    refine wpAnyC_done (by kernel_rfl) ?_ _
    have f4 := bx.frozen 4
    have c4 := bx.cell 4
    simp only [List.getElem?_toArray, List.getElem?_cons_zero, List.getElem?_cons_succ] at c4
    cases ha : D.arm.stops with
    | true =>
      have b3 := bx.store 4 (.bool true)
      have g3 := grown_trans gr (grown_store w2 g 4 (.bool true))
      have hl := h.turned (D' := { D with gone := true, arm := D.arm.then, fail := D.fail.then }) g3 b3 rfl rfl (by rw [ha] at hok; exact hok)
      clear h hok bx gr b3
      have HO' : Hid (O = { D with gone := true, arm := D.arm.then, fail := D.fail.then }) := by have := HO.out; rw [ha] at this; exact this
      have HE' : Hid (E = 6) := by have := HE.out; rw [ha] at this; exact this
      clear HO HE
      go_wp2
      go_ret
      rw [HO'.out, HE'.out]
      exact ⟨rfl, hl, g3⟩
    | false =>
      have b3 : Box w2 g (diskC g (.slice (some ⟨gd, 0, none⟩) (D.nb * 4096) cd) vu { D with gone := false, arm := D.arm.then, fail := D.fail.then }) 82 := by rw [← hgone]; exact bx
      have hl := h.turned (D' := { D with gone := false, arm := D.arm.then, fail := D.fail.then }) gr b3 rfl rfl (by rw [ha] at hok; exact hok)
      clear h hok bx b3
      have HO' : Hid (O = { D with gone := false, arm := D.arm.then, fail := D.fail.then }) := by have := HO.out; rw [ha] at this; exact this
      clear HO
      cases hf : D.fail.stops with
      | true =>
        have HE' : Hid (E = 4) := by have := HE.out; rw [ha, hf] at this; exact this
        clear HE
        go_wp2
        go_ret
        rw [HO'.out, HE'.out]
        exact ⟨rfl, hl, gr⟩
      | false =>
        have HE' : Hid (E = 0) := by have := HE.out; rw [ha, hf] at this; exact this
        clear HE
        go_wp2
        go_ret
        rw [HO'.out, HE'.out]
        exact ⟨rfl, hl, gr⟩

def armE (n : Int) : Nat := if n < 0 then 2 else 0
theorem mayArm_at {g : Nat} {w : World} {D : DS} {F : Nat → Prop} {gd cd : Nat} {vu : Value} {ps : List (Nat × Nat × Nat)} (h : Lies w g D F gd cd vu ps) (n : Int) :
    Calls Try.prog 48 #[.pointer (some ⟨g, 0, none⟩), .int .i64 n] w fun e w' => e = .returned (.int .i64 (armE n : Int)) ∧ w = w' := by
  have c := isMade_at h
  by_cases hn : n < 0
  · have e : armE n = 2 := by simp [armE, hn]
    rw [e]
    go_enter Try.func48, Try.ntmps48
    go_wp2_with fail
    refine c.mono ?_
    rintro e w' ⟨rfl, rfl⟩
    go_wp2
    go_ret
    exact ⟨rfl, rfl⟩
  · have e : armE n = 0 := by simp [armE, hn]
    rw [e]
    go_enter Try.func48, Try.ntmps48
    go_wp2_with fail
    refine c.mono ?_
    rintro e w' ⟨rfl, rfl⟩
    go_wp2
    go_ret
    exact ⟨rfl, rfl⟩

def DS.armed (D : DS) (n : Int) : DS := if n < 0 then D else { D with arm := ⟨true, n.toNat⟩ }
def DS.failing (D : DS) (n : Int) : DS := if n < 0 then D else { D with fail := ⟨true, n.toNat⟩ }

theorem arm_at {g : Nat} {w : World} {D : DS} {F : Nat → Prop} (hd : IsDisk w g D F) (n : Int) (hn : n ≤ 9223372036854775807) :
    Calls Try.prog 18 #[.pointer (some ⟨g, 0, none⟩), .int .i64 n] w fun e w' => e = .returned (.int .i64 (armE n : Int)) ∧ IsDisk w' g (D.armed n) F ∧ Upd F w w' := by
  obtain ⟨gd, cd, vu, ps, h⟩ := hd
  have c := mayArm_at h n
  by_cases h0 : n < 0
  · have e : armE n = 2 := by simp [armE, h0]
    have e2 : D.armed n = D := by simp [DS.armed, h0]
    rw [e2, e]
    rw [e] at c
    go_enter Try.func18, Try.ntmps18
    go_wp2_with fail
    refine c.mono ?_
    rintro e w' ⟨rfl, rfl⟩
    go_wp2
    go_ret
    exact ⟨rfl, ⟨gd, cd, vu, ps, h⟩, Upd.refl _ _⟩
  · have e : armE n = 0 := by simp [armE, h0]
    have e2 : D.armed n = { D with arm := ⟨true, n.toNat⟩ } := by simp [DS.armed, h0]
    rw [e2, e]
    rw [e] at c
    obtain ⟨m, rfl⟩ := Int.eq_ofNat_of_zero_le (show 0 ≤ n by omega)
    obtain ⟨_, _, _, _, _, c5, c6, _⟩ := box_cells h.box
    have f5 := h.box.frozen 5
    have f6 := h.box.frozen 6
    have b3 := (h.box.store 5 (.bool true)).store 6 (.int .i64 (m : Int))
    have g3 := grown_trans (grown_store w g 5 (.bool true)) (grown_store _ g 6 (.int .i64 (m : Int)))
    have hl := h.turned (D' := { D with arm := ⟨true, m⟩ }) g3 b3 rfl rfl ⟨h.ok.len, h.ok.lo, h.ok.hi, h.ok.each, by show m < _; omega, h.ok.fail⟩
    have hu : Upd F w _ := (Upd.refl F w).grown g3 (fun k e => by cases e; exact .inl h.fg)
    clear b3 g3 e2
    go_enter Try.func18, Try.ntmps18
    go_wp2_with fail
    refine c.mono ?_
    rintro e w' ⟨rfl, rfl⟩
    go_wp2
    go_ret
    exact ⟨rfl, ⟨gd, cd, vu, ps, hl⟩, hu⟩

end Go.Proofs.Ytglahlbponlepaa.Dk
