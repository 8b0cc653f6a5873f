/-
  The laws: what 'lived' leaves, for who looks at it.
-/
import Derived.Test.YtafiopjgegmfoaaLAt
namespace Go.Proofs.Ytafiopjgegmfoaa.T
open Go.RowKit Go.Maps Go.Proofs.Ytafiopjgegmfoaa.C
theorem rcs_get {l : List (Int × Int)} {j : Nat} {p : Int × Int} (h : l[j]? = some p) : (rcs l)[j * 2]? = some (.int .i64 p.1) ∧ (rcs l)[j * 2 + 1]? = some (.int .i64 p.2) := by
  induction l generalizing j with
  | nil => simp at h
  | cons x l ih =>
    have e : rcs (x :: l) = .int .i64 x.1 :: .int .i64 x.2 :: rcs l := rfl
    cases j with
    | zero => simp at h; subst h; rw [e]; exact ⟨rfl, rfl⟩
    | succ j =>
      have := ih (j := j) (by simpa using h)
      rw [e, show (j + 1) * 2 = j * 2 + 1 + 1 by omega, show j * 2 + 1 + 1 + 1 = (j * 2 + 1) + 1 + 1 by omega]
      simpa only [List.getElem?_cons_succ] using this
theorem row2_cell {w : World} {B : Nat} {v : Value} {l : List (Int × Int)} (h : w.ownsRow B 35 2 v l.length (rcs l)) {j : Nat} {p : Int × Int} (hj : l[j]? = some p) : ∃ g cap, v = .slice (some ⟨g, 0, none⟩) l.length cap ∧ g < w.heap.size ∧ w.cell? ⟨g, j * 2, none⟩ = some (.int .i64 p.1) ∧ w.cell? ⟨g, j * 2 + 1, none⟩ = some (.int .i64 p.2) := by
  have hl : j < l.length := (List.getElem?_eq_some_iff.1 hj).1
  rcases h.2 with ⟨rfl, h0⟩ | ⟨g, cap, cur, rfl, hb, hg, _, _, _, ht⟩
  · omega
  · obtain ⟨a, b⟩ := rcs_get hj
    refine ⟨g, cap, rfl, Box.lt hg, ?_, ?_⟩
    · rw [Box.cell hg, ← a, ← ht, List.getElem?_take, if_pos (by omega)]
      simp
    · rw [Box.cell hg, ← b, ← ht, List.getElem?_take, if_pos (by omega)]
      simp
/-- a history and its reads, in whatever world comes behind -/
structure AtR (w : World) (g j : Nat) (b : HB) (h : Hs) (a2 : Option Addr) (c2 : Nat) : Prop where
  at1 : AtH w g j b h
  bg : w.cell? ⟨b.h, 0, none⟩ = some (.int .i64 h.beg)
  rv : w.cell? ⟨b.h, 2, none⟩ = some (.slice a2 h.rd.length c2)
  rr : ∀ i p, h.rd[i]? = some p → ∃ g2, a2 = some ⟨g2, 0, none⟩ ∧ w.cell? ⟨g2, i * 2, none⟩ = some (.int .i64 p.1) ∧ w.cell? ⟨g2, i * 2 + 1, none⟩ = some (.int .i64 p.2)
theorem AtR.of {w : World} {B : Nat} {G : Nat → Prop} {P : List HB} {A : List Hs} {a : Option Addr} {N c : Nat} (hm : Hm w B G P A) (hN : A.length = N) (hr : w.ownsRow B 28 1 (.slice a N c) N (hpt P)) (j : Nat) (hj : j < N) :
    ∃ h b g a2 c2, A[j]? = some h ∧ a = some ⟨g, 0, none⟩ ∧ ∀ u, Below w.heap.size w u → AtR u g j b h a2 c2 := by
  obtain ⟨h, ha⟩ : ∃ h, A[j]? = some h := ⟨_, List.getElem?_eq_getElem (by omega)⟩
  obtain ⟨b, hp, o, _⟩ := hm.at ha
  obtain ⟨h', b', g, ha', e1, hall⟩ := AtH.of hm hN hr j hj
  rw [ha] at ha'
  injection ha' with ha'
  subst ha'
  have eb : b'.h = b.h := by
    obtain ⟨g', cap, e, hc⟩ := ownsRow_cell hr j hj
    injection e with e3 _ _
    rw [e1] at e3
    injection e3 with e3
    injection e3 with e3 _ _
    subst e3
    have := (hall w (Below.refl _ _)).row
    rw [hc] at this
    simp [hpt, hp, ptr] at this
    exact this.symm
  obtain ⟨a2, c2, hrv⟩ := ownsRow_slice o.row
  refine ⟨h, b', g, a2, c2, ha, e1, fun u hu => ?_⟩
  have o2 : OneH u B b h := o.stay (fun y hy => hu.block y (o.lt y hy).2)
  refine ⟨hall u hu, by rw [eb]; exact o2.box.cell 0, by rw [eb, ← hrv]; exact o2.box.cell 2, fun i p hi => ?_⟩
  obtain ⟨g2, cap, e, _, k1, k2⟩ := row2_cell o2.row hi
  rw [hrv] at e
  injection e with e _ _
  exact ⟨g2, e, k1, k2⟩
/-- the cells in the end, as numbers -/
def lastOf (S : M) : Int → Int := fun i => match (S.C.getD i.toNat ⟨.int .i64 0, 0, 0⟩).v with
  | .int _ y => y
  | _ => 0
theorem lastOf_is {S : M} (hN : Num S) (h6 : S.C.length = 6) : valsTo S 6 = sixOf (lastOf S) ∧ ∀ i : Int, 0 ≤ i → i < 6 → ∃ c, S.cell? i = some c ∧ c.v = .int .i64 (lastOf S i) := by
  have key : ∀ i : Int, 0 ≤ i → i < 6 → (∃ c, S.cell? i = some c ∧ c.v = .int .i64 (lastOf S i)) ∧ (S.C.getD i.toNat ⟨.int .i64 0, 0, 0⟩).v = .int .i64 (lastOf S i) := fun i h0 hi => by
    have hl6 : i.toNat < S.C.length := by omega
    have hc : S.cell? i = some (S.C[i.toNat]) := by
      unfold M.cell?
      rw [if_pos h0]
      exact List.getElem?_eq_getElem hl6
    have hgd : S.C.getD i.toNat ⟨.int .i64 0, 0, 0⟩ = S.C[i.toNat] := by simp [List.getD, List.getElem?_eq_getElem hl6]
    obtain ⟨y, hy⟩ := hN _ _ hc
    have : lastOf S i = y := by unfold lastOf; rw [hgd, hy]
    rw [this, hgd]
    exact ⟨⟨_, hc, hy⟩, hy⟩
  refine ⟨?_, fun i h0 hi => (key i h0 hi).1⟩
  have e : ∀ i : Nat, i < 6 → (S.C.getD i ⟨.int .i64 0, 0, 0⟩).v = .int .i64 (lastOf S (i : Int)) := fun i hi => (key (i : Int) (by omega) (by omega)).2
  show #[(S.C.getD 0 ⟨.int .i64 0, 0, 0⟩).v, (S.C.getD 1 ⟨.int .i64 0, 0, 0⟩).v, (S.C.getD 2 ⟨.int .i64 0, 0, 0⟩).v, (S.C.getD 3 ⟨.int .i64 0, 0, 0⟩).v, (S.C.getD 4 ⟨.int .i64 0, 0, 0⟩).v, (S.C.getD 5 ⟨.int .i64 0, 0, 0⟩).v] = _
  rw [e 0 (by decide), e 1 (by decide), e 2 (by decide), e 3 (by decide), e 4 (by decide), e 5 (by decide)]
  rfl
/-- all that the laws want of it -/
structure Left4 (w0 u : World) (a : Option Addr) (N c : Nat) (f : Int → Int) (A : List Hs) : Prop where
  len : A.length = N
  le : N ≤ 304
  inn : AllIn A
  bel : Below w0.heap.size w0 u
  hist : ∀ j, j < N → ∃ h b g a2 c2, A[j]? = some h ∧ a = some ⟨g, 0, none⟩ ∧ ∀ u', Below u.heap.size u u' → AtR u' g j b h a2 c2
  att : ∀ u', Below u.heap.size u u' → ∀ n : Int, n ≤ 1099511627776 → Calls Try.prog 6 #[.slice a N c, .int .i64 n] u' fun r w' => r = .returned (.agg (sixOf (atP A n.toNat))) ∧ Below u'.heap.size u' w'
  opq : ∀ h ∈ A, ∀ g ∈ h.rd, atP A h.beg.toNat g.1 = g.2
  ser : ∀ h ∈ A, h.done = true → ∀ g ∈ h.rd, atP A (if h.wr.length > 0 then h.ver - 1 else h.ver).toNat g.1 = g.2
  vrs : ∀ h ∈ A, h.done = true → h.ver ≤ 1099511627776 ∧ (h.wr.length > 0 → 1 ≤ h.ver)
  uni : ∀ (a b : Nat) h g, A[a]? = some h → A[b]? = some g → a ≠ b → h.cm → g.cm → h.ver ≠ g.ver
  rdl : ∀ (a : Nat) h, A[a]? = some h → h.rd.length ≤ 304
  last : ∀ most : Int, 0 ≤ most → (∀ h ∈ A, h.cm → h.ver ≤ most) → sixOf f = sixOf (atP A most.toNat)
theorem LDone.left {w0 u : World} {av : Value} {S : M} {A : List Hs} (d : LDone w0 u av S A) : ∃ a N c f, av = .slice a N c ∧ valsTo S 6 = sixOf f ∧ Left4 w0 u a N c f A := by
  obtain ⟨G, P, hm, hr⟩ := d.mem
  obtain ⟨l, P2, gp, hp, cur, hE⟩ := d.life
  obtain ⟨X, Ph, V, Pb, hl, _, hov, _⟩ := hE.life
  have hmu : ∀ j, j < 4 → (Ph j).mute := fun j hj d r e => by rw [hov j hj] at e; cases e
  have e1 : (hpt P).length = A.length := by simp [hpt, hm.len]
  rw [e1] at hr
  obtain ⟨a, c, rfl⟩ := ownsRow_slice hr
  obtain ⟨k1, k2⟩ := lastOf_is d.num hE.six
  have hin : ∀ h ∈ A, h.In := fun h hh => by
    obtain ⟨i, hi⟩ := List.getElem?_of_mem hh
    exact hE.inn i h hi
  refine ⟨a, A.length, c, _, rfl, k1, rfl, d.le, hE.inn, d.bel, fun j hj => AtR.of hm rfl hr j hj, fun u' hu n hn => ?_, fun h hh g hg => hl.moment hmu hh g hg, fun h hh hd g hg => hl.serial hmu hh hd g hg, fun h hh hd => ?_, hl.uni, d.rdl, fun most h0 hmo => ?_⟩
  · exact at_at (hm.below hu) rfl (ownsRow_below hr hu.block) hE.inn n hn (by have := d.le; omega)
  · obtain ⟨i, hi⟩ := List.getElem?_of_mem hh
    have ok := hl.hs i h hi
    by_cases hw : h.wr = []
    · exact ⟨by rw [ok.ro hd hw]; exact (hin h hh).bg, fun e => by rw [hw] at e; exact absurd e (by decide)⟩
    · have := ok.ser ⟨hd, hw⟩
      exact ⟨Int.le_trans this.2.1 d.rt.k1, fun _ => this.1⟩
  · refine sixOf_congr fun i h1 h2 => ?_
    obtain ⟨c, hc, hv⟩ := k2 i h1 h2
    have := hl.last hmu hc h0 hmo
    rw [hv] at this
    injection this
end Go.Proofs.Ytafiopjgegmfoaa.T
