/-
  The laws: what 'lived' leaves, for who looks at it. Tl2Opaque, walked. Tl2Serial, walked.
-/
import Derived.Test.YtafiopjgegmfoaaLAt
import Derived.Test.YtafiopjgegmfoaaTAwake
import Derived.Deep.CutBlock
import Derived.ChangeKeysEq
namespace Go.Proofs.Ytafiopjgegmfoaa.T
open Go.RowKit Go.Maps Go.Proofs.Ytafiopjgegmfoaa.C
theorem rcs_get {l : List (Int × Int)} {j : Nat} {p : Int × Int} (h : l[j]? = some p) : (rcs l)[j * 2]? = some (.int .i64 p.1) ∧ (rcs l)[j * 2 + 1]? = some (.int .i64 p.2) := by
  induction l generalizing j with
  | nil => simp at h
  | cons x l ih =>
    have e : rcs (x :: l) = .int .i64 x.1 :: .int .i64 x.2 :: rcs l := rfl
    cases j with
    | zero => simp at h; subst h; rw [e]; exact ⟨rfl, rfl⟩
    | succ j =>
      have := ih (j := j) (by simpa using h)
      rw [e, show (j + 1) * 2 = j * 2 + 1 + 1 by omega, show j * 2 + 1 + 1 + 1 = (j * 2 + 1) + 1 + 1 by omega]
      simpa only [List.getElem?_cons_succ] using this
theorem row2_cell {w : World} {B : Nat} {v : Value} {l : List (Int × Int)} (h : w.ownsRow B 35 2 v l.length (rcs l)) {j : Nat} {p : Int × Int} (hj : l[j]? = some p) : ∃ g cap, v = .slice (some ⟨g, 0, none⟩) l.length cap ∧ g < w.heap.size ∧ w.cell? ⟨g, j * 2, none⟩ = some (.int .i64 p.1) ∧ w.cell? ⟨g, j * 2 + 1, none⟩ = some (.int .i64 p.2) := by
  have hl : j < l.length := (List.getElem?_eq_some_iff.1 hj).1
  rcases h.2 with ⟨rfl, h0⟩ | ⟨g, cap, cur, rfl, hb, hg, _, _, _, ht⟩
  · omega
  · obtain ⟨a, b⟩ := rcs_get hj
    refine ⟨g, cap, rfl, Box.lt hg, ?_, ?_⟩
    · rw [Box.cell hg, ← a, ← ht, List.getElem?_take, if_pos (by omega)]
      simp
    · rw [Box.cell hg, ← b, ← ht, List.getElem?_take, if_pos (by omega)]
      simp
/-- a history and its reads, in whatever world comes behind -/
structure AtR (w : World) (g j : Nat) (b : HB) (h : Hs) (a2 : Option Addr) (c2 : Nat) : Prop where
  at1 : AtH w g j b h
  bg : w.cell? ⟨b.h, 0, none⟩ = some (.int .i64 h.beg)
  rv : w.cell? ⟨b.h, 2, none⟩ = some (.slice a2 h.rd.length c2)
  rr : ∀ i p, h.rd[i]? = some p → ∃ g2, a2 = some ⟨g2, 0, none⟩ ∧ w.cell? ⟨g2, i * 2, none⟩ = some (.int .i64 p.1) ∧ w.cell? ⟨g2, i * 2 + 1, none⟩ = some (.int .i64 p.2)
theorem AtR.of {w : World} {B : Nat} {G : Nat → Prop} {P : List HB} {A : List Hs} {a : Option Addr} {N c : Nat} (hm : Hm w B G P A) (hN : A.length = N) (hr : w.ownsRow B 28 1 (.slice a N c) N (hpt P)) (j : Nat) (hj : j < N) :
    ∃ h b g a2 c2, A[j]? = some h ∧ a = some ⟨g, 0, none⟩ ∧ ∀ u, Below w.heap.size w u → AtR u g j b h a2 c2 := by
  obtain ⟨h, ha⟩ : ∃ h, A[j]? = some h := ⟨_, List.getElem?_eq_getElem (by omega)⟩
  obtain ⟨b, hp, o, _⟩ := hm.at ha
  obtain ⟨h', b', g, ha', e1, hall⟩ := AtH.of hm hN hr j hj
  rw [ha] at ha'
  injection ha' with ha'
  subst ha'
  have eb : b'.h = b.h := by
    obtain ⟨g', cap, e, hc⟩ := ownsRow_cell hr j hj
    injection e with e3 _ _
    rw [e1] at e3
    injection e3 with e3
    injection e3 with e3 _ _
    subst e3
    have := (hall w (Below.refl _ _)).row
    rw [hc] at this
    simp [hpt, hp, ptr] at this
    exact this.symm
  obtain ⟨a2, c2, hrv⟩ := ownsRow_slice o.row
  refine ⟨h, b', g, a2, c2, ha, e1, fun u hu => ?_⟩
  have o2 : OneH u B b h := o.stay (fun y hy => hu.block y (o.lt y hy).2)
  refine ⟨hall u hu, by rw [eb]; exact o2.box.cell 0, by rw [eb, ← hrv]; exact o2.box.cell 2, fun i p hi => ?_⟩
  obtain ⟨g2, cap, e, _, k1, k2⟩ := row2_cell o2.row hi
  rw [hrv] at e
  injection e with e _ _
  exact ⟨g2, e, k1, k2⟩
/-- the cells in the end, as numbers -/
def lastOf (S : M) : Int → Int := fun i => match (S.C.getD i.toNat ⟨.int .i64 0, 0, 0⟩).v with
  | .int _ y => y
  | _ => 0
theorem lastOf_is {S : M} (hN : Num S) (h6 : S.C.length = 6) : valsTo S 6 = sixOf (lastOf S) ∧ ∀ i : Int, 0 ≤ i → i < 6 → ∃ c, S.cell? i = some c ∧ c.v = .int .i64 (lastOf S i) := by
  have key : ∀ i : Int, 0 ≤ i → i < 6 → (∃ c, S.cell? i = some c ∧ c.v = .int .i64 (lastOf S i)) ∧ (S.C.getD i.toNat ⟨.int .i64 0, 0, 0⟩).v = .int .i64 (lastOf S i) := fun i h0 hi => by
    have hl6 : i.toNat < S.C.length := by omega
    have hc : S.cell? i = some (S.C[i.toNat]) := by
      unfold M.cell?
      rw [if_pos h0]
      exact List.getElem?_eq_getElem hl6
    have hgd : S.C.getD i.toNat ⟨.int .i64 0, 0, 0⟩ = S.C[i.toNat] := by simp [List.getD, List.getElem?_eq_getElem hl6]
    obtain ⟨y, hy⟩ := hN _ _ hc
    have : lastOf S i = y := by unfold lastOf; rw [hgd, hy]
    rw [this, hgd]
    exact ⟨⟨_, hc, hy⟩, hy⟩
  refine ⟨?_, fun i h0 hi => (key i h0 hi).1⟩
  have e : ∀ i : Nat, i < 6 → (S.C.getD i ⟨.int .i64 0, 0, 0⟩).v = .int .i64 (lastOf S (i : Int)) := fun i hi => (key (i : Int) (by omega) (by omega)).2
  show #[(S.C.getD 0 ⟨.int .i64 0, 0, 0⟩).v, (S.C.getD 1 ⟨.int .i64 0, 0, 0⟩).v, (S.C.getD 2 ⟨.int .i64 0, 0, 0⟩).v, (S.C.getD 3 ⟨.int .i64 0, 0, 0⟩).v, (S.C.getD 4 ⟨.int .i64 0, 0, 0⟩).v, (S.C.getD 5 ⟨.int .i64 0, 0, 0⟩).v] = _
  rw [e 0 (by decide), e 1 (by decide), e 2 (by decide), e 3 (by decide), e 4 (by decide), e 5 (by decide)]
  rfl
/-- all that the laws want of it -/
structure Left4 (w0 u : World) (a : Option Addr) (N c : Nat) (f : Int → Int) (A : List Hs) : Prop where
  len : A.length = N
  le : N ≤ 304
  inn : AllIn A
  bel : Below w0.heap.size w0 u
  hist : ∀ j, j < N → ∃ h b g a2 c2, A[j]? = some h ∧ a = some ⟨g, 0, none⟩ ∧ ∀ u', Below u.heap.size u u' → AtR u' g j b h a2 c2
  att : ∀ u', Below u.heap.size u u' → ∀ n : Int, n ≤ 1099511627776 → Calls Try.prog 6 #[.slice a N c, .int .i64 n] u' fun r w' => r = .returned (.agg (sixOf (atP A n.toNat))) ∧ Below u'.heap.size u' w'
  opq : ∀ h ∈ A, ∀ g ∈ h.rd, atP A h.beg.toNat g.1 = g.2
  ser : ∀ h ∈ A, h.done = true → ∀ g ∈ h.rd, atP A (if h.wr.length > 0 then h.ver - 1 else h.ver).toNat g.1 = g.2
  vrs : ∀ h ∈ A, h.done = true → h.ver ≤ 1099511627776 ∧ (h.wr.length > 0 → 1 ≤ h.ver)
  uni : ∀ (a b : Nat) h g, A[a]? = some h → A[b]? = some g → a ≠ b → h.cm → g.cm → h.ver ≠ g.ver
  rdl : ∀ (a : Nat) h, A[a]? = some h → h.rd.length ≤ 304
  last : ∀ most : Int, 0 ≤ most → (∀ h ∈ A, h.cm → h.ver ≤ most) → sixOf f = sixOf (atP A most.toNat)
theorem LDone.left {w0 u : World} {av : Value} {S : M} {A : List Hs} (d : LDone w0 u av S A) : ∃ a N c f, av = .slice a N c ∧ valsTo S 6 = sixOf f ∧ Left4 w0 u a N c f A := by
  obtain ⟨G, P, hm, hr⟩ := d.mem
  obtain ⟨l, P2, gp, hp, cur, hE⟩ := d.life
  obtain ⟨X, Ph, V, Pb, hl, _, hov, _⟩ := hE.life
  have hmu : ∀ j, j < 4 → (Ph j).mute := fun j hj d r e => by rw [hov j hj] at e; cases e
  have e1 : (hpt P).length = A.length := by simp [hpt, hm.len]
  rw [e1] at hr
  obtain ⟨a, c, rfl⟩ := ownsRow_slice hr
  obtain ⟨k1, k2⟩ := lastOf_is d.num hE.six
  have hin : ∀ h ∈ A, h.In := fun h hh => by
    obtain ⟨i, hi⟩ := List.getElem?_of_mem hh
    exact hE.inn i h hi
  refine ⟨a, A.length, c, _, rfl, k1, rfl, d.le, hE.inn, d.bel, fun j hj => AtR.of hm rfl hr j hj, fun u' hu n hn => ?_, fun h hh g hg => hl.moment hmu hh g hg, fun h hh hd g hg => hl.serial hmu hh hd g hg, fun h hh hd => ?_, hl.uni, d.rdl, fun most h0 hmo => ?_⟩
  · exact at_at (hm.below hu) rfl (ownsRow_below hr hu.block) hE.inn n hn (by have := d.le; omega)
  · obtain ⟨i, hi⟩ := List.getElem?_of_mem hh
    have ok := hl.hs i h hi
    by_cases hw : h.wr = []
    · exact ⟨by rw [ok.ro hd hw]; exact (hin h hh).bg, fun e => by rw [hw] at e; exact absurd e (by decide)⟩
    · have := ok.ser ⟨hd, hw⟩
      exact ⟨Int.le_trans this.2.1 d.rt.k1, fun _ => this.1⟩
  · refine sixOf_congr fun i h1 h2 => ?_
    obtain ⟨c, hc, hv⟩ := k2 i h1 h2
    have := hl.last hmu hc h0 hmo
    rw [hv] at this
    injection this
end Go.Proofs.Ytafiopjgegmfoaa.T
namespace Go.Proofs.Ytafiopjgegmfoaa.T
open Go.RowKit Go.Maps Go.Proofs.Ytafiopjgegmfoaa.C
/-- what 'lived' answers -/
def Lived (w : World) (arg : Value) : Prop := Calls Try.prog 5 #[arg] w fun r w' => ∃ av S A, r = .returned (.tuple #[av, .agg (valsTo S 6), .bool true]) ∧ LDone w w' av S A
set_option maxHeartbeats 8000000 in
set_option maxRecDepth 100000 in
theorem opaque_at {w : World} {a0 : Option Addr} {N0 c0 : Nat} (hl : Lived w (.slice a0 N0 c0)) :
    Calls Try.prog 4 #[.slice a0 N0 c0] w fun r w' => r = .returned (.bool true) ∧ Below w.heap.size w w' := by
  have cl : Calls Try.prog 5 #[.slice a0 N0 c0] w fun r w' => ∃ a N c f A, r = .returned (.tuple #[.slice a N c, .agg (sixOf f), .bool true]) ∧ Left4 w w' a N c f A := Calls.mono hl (by
    rintro r w' ⟨av, S, A, rfl, d⟩
    obtain ⟨a, N, c, f, rfl, e, h⟩ := d.left
    exact ⟨a, N, c, f, A, by rw [e], h⟩)
  unfold sixOf at cl
  clear hl
  go_enter Try.func4, Try.ntmps4
  go_wp2_with fail
  refine Calls.mono cl ?_
  rintro e w1 ⟨a, N, c, f, A, rfl, hL⟩
  have HL : Hid (Left4 w w1 a N c f A) := hL
  have hN : N ≤ 304 := hL.le
  clear hL cl
  go_wp2_with fail
  have B0 : Hid (Below w1.heap.size w1 (w1.alloc (.cells #[.int .i64 (f 0), .int .i64 (f 1), .int .i64 (f 2), .int .i64 (f 3), .int .i64 (f 4), .int .i64 (f 5)] 24))) := (Below.refl _ _).alloc (Nat.le_refl _) _
  generalize w1.alloc (.cells #[.int .i64 (f 0), .int .i64 (f 1), .int .i64 (f 2), .int .i64 (f 3), .int .i64 (f 4), .int .i64 (f 5)] 24) = wa at *
  go_loopw [21] (fun i u' => ∃ j : Nat, j ≤ N ∧ i = .int .i64 (j : Int) ∧ Below w1.heap.size w1 u') (fun i _ => N - (civ i).toNat)
  case atStart => exact ⟨0, by omega, rfl, B0.out⟩
  case round =>
    obtain ⟨j, hj, rfl, hb⟩ := hrel
    have HB : Hid (Below w1.heap.size w1 wr) := hb
    clear hb B0
    by_cases hjt : j < N
    · obtain ⟨h, b, g, a2, c2, hA, ha, hall⟩ := HL.out.hist j hjt
      subst ha
      have hjn : (j : Int) < (N : Int) := by omega
      have HH : Hid (∀ u', Below w1.heap.size w1 u' → AtR u' g j b h a2 c2) := hall
      have f0 := hall wr HB.out
      have cr := f0.at1.row
      have cg := f0.bg
      have hmem : h ∈ A := List.mem_of_getElem? hA
      have HIn : Hid h.In := HL.out.inn j h hA
      have HRd : Hid (h.rd.length ≤ 304) := HL.out.rdl j h hA
      have HOp : Hid (∀ p ∈ h.rd, atP A h.beg.toNat p.1 = p.2) := HL.out.opq h hmem
      have ca := HL.out.att wr HB.out h.beg HIn.out.bg
      unfold sixOf at ca
      obtain ⟨F, hF⟩ : ∃ F, F = atP A h.beg.toNat := ⟨_, rfl⟩
      rw [← hF] at ca HOp
      clear hall hA f0 hF hmem
      go_wp2_with fail
      refine ca.mono ?_
      rintro r w2 ⟨rfl, hb2⟩
      have HB2 : Hid (Below w1.heap.size w1 w2) := HB.out.trans (hb2.mono HB.out.size)
      clear hb2 ca HB cr cg
      go_upto_region 8 with fail
      obtain ⟨wb, hwb⟩ : ∃ wb, wb = w2.alloc (.cells #[.int .i64 (F 0), .int .i64 (F 1), .int .i64 (F 2), .int .i64 (F 3), .int .i64 (F 4), .int .i64 (F 5)] 24) := ⟨_, rfl⟩
      rw [← hwb]
      have HX : Hid (Below w1.heap.size w1 wb ∧ Box wb w2.heap.size (sixOf F) 24 ∧ w1.heap.size ≤ w2.heap.size) := by
        rw [hwb]
        exact ⟨HB2.out.alloc HB2.out.size _, Box.new w2 _ 24, HB2.out.size⟩
      clear hwb HB2
      obtain ⟨tb, htb⟩ : ∃ tb, tb = w2.heap.size := ⟨_, rfl⟩
      rw [← htb] at HX ⊢
      clear htb
      have f1 := HH.out wb HX.out.1
      have cv := f1.rv
      clear f1
      obtain ⟨M, hM⟩ : ∃ M, M = h.rd.length := ⟨_, rfl⟩
      rw [← hM] at cv
      have HM : Hid (M = h.rd.length) := hM
      have hM3 : M ≤ 304 := by rw [hM]; exact HRd.out
      clear hM
      go_wp2_with fail
      go_loopw [36] (fun i u' => ∃ k : Nat, k ≤ M ∧ i = .int .i64 (k : Int) ∧ Below w1.heap.size w1 u' ∧ Box u' tb (sixOf F) 24) (fun i _ => M - (civ i).toNat)
      case atStart => exact ⟨0, by omega, rfl, HX.out.1, HX.out.2.1⟩
      case round =>
        obtain ⟨k, hk, rfl, hb1, hx1⟩ := hrel
        have HX1 : Hid (Below w1.heap.size w1 wr ∧ Box wr tb (sixOf F) 24) := ⟨hb1, hx1⟩
        clear hb1 hx1
        by_cases hkt : k < M
        · obtain ⟨q, hq⟩ : ∃ q, h.rd[k]? = some q := ⟨_, List.getElem?_eq_getElem (by rw [← HM.out]; exact hkt)⟩
          have f2 := HH.out wr HX1.out.1
          obtain ⟨g2, e2, k0, k1⟩ := f2.rr k q hq
          subst e2
          have hqm : q ∈ h.rd := List.mem_of_getElem? hq
          have hq6 : 0 ≤ q.1 ∧ q.1 < 6 := HIn.out.rd q hqm
          have hqv : F q.1 = q.2 := HOp.out q hqm
          obtain ⟨x, y⟩ := q
          dsimp only at k0 k1 hq6 hqv
          have hkn : (k : Int) < (M : Int) := by omega
          clear f2 hq hqm
          go_upto_region 11 with fail
          obtain ⟨i, rfl⟩ : ∃ i : Nat, x = (i : Int) := ⟨x.toNat, by omega⟩
          have hi6 : i < 6 := by omega
          have hi6' : (i : Int) < 6 := by omega
          obtain ⟨wc, hwc⟩ : ∃ wc, wc = wr.alloc (.cells #[.int .i64 (i : Int), .int .i64 y] 35) := ⟨_, rfl⟩
          obtain ⟨ob, hob⟩ : ∃ ob, ob = wr.heap.size := ⟨_, rfl⟩
          have bo : Box wc ob #[.int .i64 (i : Int), .int .i64 y] 35 := by rw [hwc, hob]; exact Box.new wr _ 35
          have bt : Box wc tb (sixOf F) 24 := by rw [hwc]; exact HX1.out.2.alloc _
          have HB6 : Hid (Below w1.heap.size w1 wc ∧ Box wc tb (sixOf F) 24) := ⟨by rw [hwc]; exact HX1.out.1.alloc HX1.out.1.size _, bt⟩
          rw [← hwc, ← hob]
          have e0 : wc.cell? ⟨ob, 0, none⟩ = some (.int .i64 (i : Int)) := bo.cell 0
          have e1 : wc.cell? ⟨ob, 1, none⟩ = some (.int .i64 y) := bo.cell 1
          have e2 : wc.cell? ⟨tb, i, none⟩ = some (.int .i64 y) := by
            rw [bt.cell i, ← hqv]
            have : i = 0 ∨ i = 1 ∨ i = 2 ∨ i = 3 ∨ i = 4 ∨ i = 5 := by omega
            rcases this with rfl | rfl | rfl | rfl | rfl | rfl <;> rfl
          clear hwc hob bo bt HX1 HX k0 k1 hqv cv hq6
          go_quiet (fail)
          obtain ⟨wd, hwd⟩ : ∃ wd, wd = wc.drewN nq := ⟨_, rfl⟩
          rw [← hwd]
          have HB7 : Hid (Below w1.heap.size w1 wd ∧ Box wd tb (sixOf F) 24) := by
            obtain ⟨p1, p2⟩ := HB6.out
            rw [hwd]
            exact ⟨⟨p1.os, p1.tape, p1.output, p1.size, p1.block⟩, p2⟩
          clear hwd HB6 e0 e1 e2
          go_wp2_with fail
          go_roundw
          case rel => exact ⟨k + 1, by omega, by go_num, HB7.out.1, HB7.out.2⟩
          case measure => simp only [civ]; omega
        · have hkn : ¬ (k : Int) < (M : Int) := by omega
          have HB5 : Hid (Below w1.heap.size w1 wr) := HX1.out.1
          clear HX1 HX
          go_wp2_with fail
          go_roundw
          case rel => exact ⟨j + 1, by omega, by go_num, HB5.out⟩
          case measure => simp only [civ]; omega
    · have hjn : ¬ (j : Int) < (N : Int) := by omega
      have ck := awake_at wr
      have HB1 : Hid (Below w.heap.size w wr) := HL.out.bel.trans (HB.out.mono HL.out.bel.size)
      clear HB HL
      go_wp2_with fail
      refine ck.mono ?_
      rintro r w2 ⟨rfl, hb2⟩
      have HB2 : Hid (Below w.heap.size w w2) := HB1.out.trans (hb2.mono HB1.out.size)
      clear hb2 ck HB1
      go_wp2_with fail
      go_ret
      exact ⟨rfl, HB2.out⟩
end Go.Proofs.Ytafiopjgegmfoaa.T
namespace Go.Proofs.Ytafiopjgegmfoaa
open Go.RowKit Go.Maps
/-- Block b is a map of at most n numbers that holds m. -/
def MapJ (w : World) (b n : Nat) (m : Int → Option Value) : Prop :=
  ∃ D : DataW Value, w.ownsMap Try.prog 2 rV b n D ∧ (∀ k, (m k).isSome = true → (Lit.int .i64 k).wf = true) ∧ ∀ k, (Lit.int .i64 k).wf = true → has D (.int .i64 k) = (m k).isSome ∧ ∀ z, D.atKey (.int .i64 k) z = ((m k).map DataW.held).getD z
theorem keyed2 : Keyed Try.prog 2 := int_keyed Try.underlying2
theorem key2 {k : Int} (h : (Lit.int .i64 k).wf = true) : keyOf Try.prog 2 (.int .i64 k) = some (.int .i64 k) := by
  simp [keyOf, mapKey, Try.underlying2, h]
theorem MapJ.made (w : World) : MapJ (w.alloc (.map #[] 0)) w.heap.size 0 (fun _ => none) :=
  ⟨_, World.ownsMap_made w Try.prog 2 rV, fun k h => by simp at h, fun k _ => ⟨rfl, fun z => rfl⟩⟩
theorem MapJ.lt {w : World} {b n : Nat} {m : Int → Option Value} (h : MapJ w b n m) : b < w.heap.size := by obtain ⟨D, h, _⟩ := h; exact h.lt
theorem MapJ.below {w w' : World} {b n : Nat} {m : Int → Option Value} (h : MapJ w b n m) (hb : Below w.heap.size w w') : MapJ w' b n m := by
  have hl := h.lt
  obtain ⟨D, ⟨es, cl, h1, h2⟩, h3⟩ := h
  exact ⟨D, ⟨es, cl, (hb.block b hl).trans h1, h2⟩, h3⟩
theorem MapJ.update {w : World} {b n : Nat} {m : Int → Option Value} (h : MapJ w b n m) (hn : n < maxLen) (t e : TypeId) (hu : Try.prog.underlying t = some (.map 2 e)) (k : Int) (hk : (Lit.int .i64 k).wf = true) (v : Value) :
    ∃ w', (Instr.mapUpdate t (.map (some b)) (.int .i64 k) v).run Try.prog w = .ok () w' ∧ MapJ w' b (n + 1) (fun j => if j = k then some v else m j) ∧ w.grownBy w' (some b) := by
  obtain ⟨D, h1, h2, h3⟩ := h
  obtain ⟨w', r, o, g⟩ := h1.update keyed2 hu hn (key2 hk) (show rV v = some (.held v, []) from rfl)
  refine ⟨w', r, ⟨_, o, fun j hj => ?_, fun j hj => ?_⟩, g⟩
  · dsimp only at hj
    by_cases e : j = k
    · rw [e]; exact hk
    · rw [if_neg e] at hj; exact h2 j hj
  · dsimp only
    by_cases e : j = k
    · subst e
      rw [if_pos rfl]
      exact ⟨has_put_same h1.isMap (show WideAt.IsKeyLit (.int .i64 j) from trivial) _, fun z => atKey_put_same h1.isMap (show WideAt.IsKeyLit (.int .i64 j) from trivial) _ z⟩
    · have ne : Lit.int .i64 j ≠ Lit.int .i64 k := fun h => e (by injection h)
      rw [if_neg e, has_put_other ne]
      exact ⟨(h3 j hj).1, fun z => (atKey_put_other ne _ z).trans ((h3 j hj).2 z)⟩
theorem MapJ.look {w : World} {b n : Nat} {m : Int → Option Value} (h : MapJ w b n m) (t e : TypeId) (z : Value) (hu : Try.prog.underlying t = some (.map 2 e)) (hz : ∀ w : World, (zeroValue e).run Try.prog w = .ok z w) (k : Int) (hk : (Lit.int .i64 k).wf = true) :
    (Instr.lookup t (.map (some b)) (.int .i64 k) false).run Try.prog w = .ok ((m k).getD z) w := by
  obtain ⟨D, h1, h2, h3⟩ := h
  obtain ⟨v, ps, r, e⟩ := h1.lookup keyed2 hu (hz w) (show rV _ = some (.held _, []) from rfl) (key2 hk)
  rw [(h3 k hk).2] at e
  rw [r]
  cases hm : m k with
  | none => rw [hm] at e; simp [rV] at e; rw [e.1]; rfl
  | some x => rw [hm] at e; simp [rV] at e; rw [e.1]; rfl
theorem MapJ.stay {w w' : World} {b n : Nat} {m : Int → Option Value} (h : MapJ w b n m) (hb : w'.heap[b]? = w.heap[b]?) : MapJ w' b n m := by
  obtain ⟨D, ⟨es, cl, h1, h2⟩, h3⟩ := h
  exact ⟨D, ⟨es, cl, hb.trans h1, h2⟩, h3⟩
theorem MapJ.noBox {w : World} {b n g : Nat} {m : Int → Option Value} {cs : Array Value} {t : TypeId} (h : MapJ w b n m) (hb : Box w g cs t) : b ≠ g := by
  rintro rfl
  obtain ⟨D, ⟨es, cl, h1, h2⟩, h3⟩ := h
  unfold Box at hb
  rw [h1] at hb
  injection hb with hb
  cases hb
end Go.Proofs.Ytafiopjgegmfoaa
namespace Go.Proofs.Ytafiopjgegmfoaa.T
open Go.RowKit Go.Maps Go.Proofs.Ytafiopjgegmfoaa.C
theorem hid {p : Prop} (h : p) : Hid p := h
/-- a world of the class -/
structure Of (C : World → Prop) where
  u : World
  ok : C u

theorem Of.some {C : World → Prop} {w : World} (h : C w) : Nonempty (Of C) := ⟨⟨w, h⟩⟩

theorem wp_region_class {P : Program} (C : World → Prop) {id : Nat} {Q : Exit → Act → World → Prop} {a : Act} {w : World} {l : List Oper} (hm : P.follows .mixedOrders = true) (hB : Region.lexB .any l.toArray = true) (hC : C w.drew)
    (h : wpQuiet P l.toArray (fun w' => ∃ x : Of C, w' = x.u) (fun a' => ∀ w', (∃ x : Of C, w' = x.u) → Q .normal a' w') l a) : (Code.region id l.toArray true).wp P Q a w :=
  wp_region_quiet (C := fun w' => ∃ x : Of C, w' = x.u) hm hB ⟨⟨w.drew, hC⟩, rfl⟩ (by simpa using h)

/-- a callee, in the class -/
theorem Of.call {C : World → Prop} {P : Program} {f : FuncId} {args : Array Value} (x : Of C) {v : Value} {S : World → Prop}
    (h : Calls P f args x.u fun e w' => e = .returned v ∧ S w') (hs : ∀ w', S w' → C w') : Calls P f args x.u fun e w'' => e = .returned v ∧ ∃ y : Of C, w'' = y.u :=
  h.mono fun _ w' ⟨he, hb⟩ => ⟨he, ⟨w', hs w' hb⟩, rfl⟩
theorem infoT3 : (Try.prog.info? 3).map (fun i => i.size) = some 1 := by kernel_rfl
theorem eq_six (F : Int → Int) (u : World) : (binOp .eql 24 (.agg #[.int .i64 (F 0), .int .i64 (F 1), .int .i64 (F 2), .int .i64 (F 3), .int .i64 (F 4), .int .i64 (F 5)]) (.agg #[.int .i64 (F 0), .int .i64 (F 1), .int .i64 (F 2), .int .i64 (F 3), .int .i64 (F 4), .int .i64 (F 5)])).run Try.prog u = .ok (.bool true) u := by
  have hu : Try.prog.underlying 24 = some (.array 6 3) := Try.underlying24
  have hc : Try.prog.cellsOf 3 = 1 := by kernel_rfl
  have hr : List.range 6 = [0, 1, 2, 3, 4, 5] := rfl
  cases hi : Try.prog.info? 3 with
  | none => have := infoT3; rw [hi] at this; cases this
  | some i =>
    have hp : ∀ (xs : Array Value) (k : Nat) (x : Int), xs[k]? = some (.int .i64 x) → (part 3 xs (k * 1)).run Try.prog u = .ok (.int .i64 x) u := fun xs k x hx => by
      simp [part, isAgg, run_underlying Try.underlying3, hx]
    have he : ∀ (d : Nat) (x : Int), (Op.equalIn (d + 1) 3 (.int .i64 x) (.int .i64 x)).run Try.prog u = .ok true u := fun d x => by
      simp [Op.equalIn, run_underlying Try.underlying3]
    have hits : ∀ (d : Nat) (xs : Array Value) (is : List Nat), (∀ j ∈ is, ∃ x : Int, xs[j]? = some (.int .i64 x)) → (Op.eqItems (d + 1) 3 1 xs xs is).run Try.prog u = .ok true u := fun d xs is => by
      induction is with
      | nil => intro _; rfl
      | cons j is ih =>
        intro hj
        obtain ⟨x, hx⟩ := hj j (by simp)
        simp only [Op.eqItems, Sem.run_bind, hp xs j x hx, Result.andThen_ok, he]
        exact ih (fun k hk => hj k (by simp [hk]))
    have h : ∀ d : Nat, (Op.equalIn (d + 2) 24 (.agg #[.int .i64 (F 0), .int .i64 (F 1), .int .i64 (F 2), .int .i64 (F 3), .int .i64 (F 4), .int .i64 (F 5)]) (.agg #[.int .i64 (F 0), .int .i64 (F 1), .int .i64 (F 2), .int .i64 (F 3), .int .i64 (F 4), .int .i64 (F 5)])).run Try.prog u = .ok true u := fun d => by
      rw [run_equalIn_array u (d + 1) _ _ hu hi, hc, hr]
      exact hits d _ _ (fun j hj => by simp at hj; rcases hj with rfl | rfl | rfl | rfl | rfl | rfl <;> exact ⟨_, rfl⟩)
    simp only [binOp]
    simp [Op.equal, Op.maxDepth, h]
/-- the versions that were met -/
structure Met (A : List Hs) (j : Nat) (most : Int) (sf : Int → Option Value) : Prop where
  m0 : 0 ≤ most
  m1 : most ≤ 1099511627776
  le : ∀ i, i < j → ∀ h, A[i]? = some h → h.cm → h.ver ≤ most
  sn : ∀ k, (sf k).isSome = true → ∃ i, i < j ∧ ∃ h, A[i]? = some h ∧ h.cm ∧ h.ver = k
theorem Met.start (A : List Hs) : Met A 0 0 (fun _ => none) := ⟨by omega, by omega, fun i hi => by omega, fun k hk => by simp at hk⟩
theorem Met.skip {A : List Hs} {j : Nat} {most : Int} {sf : Int → Option Value} (m : Met A j most sf) {h : Hs} (ha : A[j]? = some h) (hn : ¬ h.cm) : Met A (j + 1) most sf :=
  ⟨m.m0, m.m1, fun i hi g hg hc => by
    rcases Nat.lt_or_ge i j with h1 | h1
    · exact m.le i h1 g hg hc
    · have : i = j := by omega
      subst this; rw [ha] at hg; cases hg; exact absurd hc hn, fun k hk => by obtain ⟨i, hi, r⟩ := m.sn k hk; exact ⟨i, by omega, r⟩⟩
theorem Met.more {A : List Hs} {j : Nat} {most : Int} {sf : Int → Option Value} (m : Met A j most sf) {h : Hs} (ha : A[j]? = some h) (hc : h.cm) (hv : h.ver ≤ 1099511627776) (v : Value) : Met A (j + 1) (max most h.ver) (fun k => if k = h.ver then some v else sf k) :=
  ⟨by have := m.m0; omega, by have := m.m1; omega, fun i hi g hg hcg => by
    rcases Nat.lt_or_ge i j with h1 | h1
    · have := m.le i h1 g hg hcg; omega
    · have : i = j := by omega
      subst this; rw [ha] at hg; cases hg; omega, fun k hk => by
    by_cases e : k = h.ver
    · exact ⟨j, by omega, h, ha, hc, e.symm⟩
    · rw [if_neg e] at hk; obtain ⟨i, hi, r⟩ := m.sn k hk; exact ⟨i, by omega, r⟩⟩
set_option maxHeartbeats 16000000 in
set_option maxRecDepth 100000 in
theorem serial_at {w : World} {a0 : Option Addr} {N0 c0 : Nat} (hl : Lived w (.slice a0 N0 c0)) :
    Calls Try.prog 3 #[.slice a0 N0 c0] w fun r w' => r = .returned (.bool true) ∧ Below w.heap.size w w' := by
  have cl : Calls Try.prog 5 #[.slice a0 N0 c0] w fun r w' => ∃ a N c f A, r = .returned (.tuple #[.slice a N c, .agg (sixOf f), .bool true]) ∧ Left4 w w' a N c f A := Calls.mono hl (by
    rintro r w' ⟨av, S, A, rfl, d⟩
    obtain ⟨a, N, c, f, rfl, e, h⟩ := d.left
    exact ⟨a, N, c, f, A, by rw [e], h⟩)
  unfold sixOf at cl
  clear hl
  have hmm := @run_makeMap Try.prog
  go_enter Try.func3, Try.ntmps3
  go_wp2_with fail
  refine Calls.mono cl ?_
  rintro e w1 ⟨a, N, c, f, A, rfl, hL⟩
  have HL : Hid (Left4 w w1 a N c f A) := hL
  have hN : N ≤ 304 := hL.le
  clear hL cl
  obtain ⟨lb, hlb⟩ : ∃ lb, lb = w1.heap.size := ⟨_, rfl⟩
  obtain ⟨sb, hsb⟩ : ∃ sb, sb = w1.heap.size + 1 := ⟨_, rfl⟩
  have HQ0 : Hid (Below w1.heap.size w1 ((w1.alloc (.cells #[.int .i64 (f 0), .int .i64 (f 1), .int .i64 (f 2), .int .i64 (f 3), .int .i64 (f 4), .int .i64 (f 5)] 24)).alloc (.map #[] 0)) ∧ Box ((w1.alloc (.cells #[.int .i64 (f 0), .int .i64 (f 1), .int .i64 (f 2), .int .i64 (f 3), .int .i64 (f 4), .int .i64 (f 5)] 24)).alloc (.map #[] 0)) lb (sixOf f) 24 ∧ ∃ sf n, n ≤ 0 ∧ MapJ ((w1.alloc (.cells #[.int .i64 (f 0), .int .i64 (f 1), .int .i64 (f 2), .int .i64 (f 3), .int .i64 (f 4), .int .i64 (f 5)] 24)).alloc (.map #[] 0)) sb n sf ∧ Met A 0 0 sf) := by
    have s1 : (w1.alloc (.cells (sixOf f) 24)).heap.size = w1.heap.size + 1 := by simp
    have hm := MapJ.made (w1.alloc (.cells (sixOf f) 24))
    rw [s1, ← hsb] at hm
    exact ⟨((Below.refl _ _).alloc (Nat.le_refl _) _).alloc (by simp) _, by rw [hlb]; exact (Box.new w1 (sixOf f) 24).alloc _, _, 0, Nat.le_refl _, hm, Met.start A⟩
  have HLS : Hid (lb = w1.heap.size ∧ sb = w1.heap.size + 1) := ⟨hlb, hsb⟩
  clear hlb hsb
  go_wp2_with fail
  rw [← HLS.out.2, ← HLS.out.1]
  generalize ((w1.alloc (.cells #[.int .i64 (f 0), .int .i64 (f 1), .int .i64 (f 2), .int .i64 (f 3), .int .i64 (f 4), .int .i64 (f 5)] 24)).alloc (.map #[] 0)) = wa at *
  go_loopw [6, 25] (fun mo i u' => ∃ (j : Nat) (most : Int), j ≤ N ∧ i = .int .i64 (j : Int) ∧ mo = .int .i64 most ∧ Hid (Below w1.heap.size w1 u' ∧ Box u' lb (sixOf f) 24 ∧ ∃ sf n, n ≤ j ∧ MapJ u' sb n sf ∧ Met A j most sf)) (fun _ i _ => N - (civ i).toNat)
  case atStart => exact ⟨0, 0, by omega, by simp, by simp, HQ0.out⟩
  case round =>
    clear HQ0
    obtain ⟨j, most, hj, rfl, rfl, hrel⟩ := hrel
    by_cases hjt : j < N
    · obtain ⟨h, b, g, a2, c2, hA, ha, hall⟩ := HL.out.hist j hjt
      subst ha
      have hjn : (j : Int) < (N : Int) := by omega
      have HH : Hid (∀ u', Below w1.heap.size w1 u' → AtR u' g j b h a2 c2) := hall
      have hQ := hrel.out
      have HQ1 := hid hQ
      obtain ⟨q1, q2, sf, nn, q3, q4, q5⟩ := hQ
      have f0 := hall wr q1
      have cr := f0.at1.row
      have cd := f0.at1.dn
      have cvr := f0.at1.vr
      have cmb := f0.at1.mb
      have clen := fun ty => f0.at1.mp.len 30 3 Try.underlying30 ty
      have hmem : h ∈ A := List.mem_of_getElem? hA
      have HIn : Hid h.In := HL.out.inn j h hA
      have HRd : Hid (h.rd.length ≤ 304) := HL.out.rdl j h hA
      have hgd := f0.at1.mp.gd
      have HA := hid hA
      have HME := hid hmem
      clear hall hA f0 hrel hmem
      by_cases hd : h.done = true
      · rw [hd] at cd
        have HD := hid hd
        have hvs := HL.out.vrs h HME.out hd
        have hser := HL.out.ser h HME.out hd
        by_cases hw : h.wr = []
        · have hwl : h.wr.length = 0 := by rw [hw]; rfl
          have HOP : Hid (∀ p ∈ h.rd, atP A h.ver.toNat p.1 = p.2) := by
            rw [if_neg (by omega)] at hser
            exact hser
          have hvv := hvs.1
          have HQ2 : Hid (Below w1.heap.size w1 wr ∧ Box wr lb (sixOf f) 24 ∧ ∃ sf n, n ≤ j + 1 ∧ MapJ wr sb n sf ∧ Met A (j + 1) most sf) := ⟨q1, q2, sf, nn, by omega, q4, q5.skip HA.out (fun hc => hc.2 hw)⟩
          rw [hwl] at clen
          have HQ := HQ2
          clear q1 q2 q3 q4 q5 HQ1 HQ2 hser hvs hd hw hwl hgd
          obtain ⟨vv, hvv2⟩ : ∃ vv, vv = h.ver := ⟨_, rfl⟩
          rw [← hvv2] at cvr hvv HOP
          clear hvv2
          obtain ⟨wq, hwq⟩ : ∃ wq, wq = wr := ⟨_, rfl⟩
          subst hwq
          have ca := HL.out.att wq HQ.out.1 vv hvv
          unfold sixOf at ca
          obtain ⟨F, hF⟩ : ∃ F, F = atP A vv.toNat := ⟨_, rfl⟩
          rw [← hF] at ca
          have HOp : Hid (∀ p ∈ h.rd, F p.1 = p.2) := by unfold Hid; rw [hF]; exact HOP.out
          clear hF
          go_wp2_with fail
          refine ca.mono ?_
          rintro r w2 ⟨rfl, hb2⟩
          have HB2 : Hid (Below wq.heap.size wq w2) := hb2
          clear hb2 ca
          go_upto_region 19 with fail
          obtain ⟨wb, hwb⟩ : ∃ wb, wb = w2.alloc (.cells #[.int .i64 (F 0), .int .i64 (F 1), .int .i64 (F 2), .int .i64 (F 3), .int .i64 (F 4), .int .i64 (F 5)] 24) := ⟨_, rfl⟩
          rw [← hwb]
          have HX : Hid (Below wq.heap.size wq wb ∧ Box wb w2.heap.size (sixOf F) 24 ∧ wq.heap.size ≤ w2.heap.size) := by
            rw [hwb]
            exact ⟨HB2.out.alloc HB2.out.size _, Box.new w2 _ 24, HB2.out.size⟩
          clear hwb HB2
          obtain ⟨tb, htb⟩ : ∃ tb, tb = w2.heap.size := ⟨_, rfl⟩
          rw [← htb] at HX ⊢
          clear htb
          have f1 := HH.out wb (HQ.out.1.trans (HX.out.1.mono HQ.out.1.size))
          have cv := f1.rv
          clear f1
          obtain ⟨M, hM⟩ : ∃ M, M = h.rd.length := ⟨_, rfl⟩
          rw [← hM] at cv
          have HM : Hid (M = h.rd.length) := hM
          have hM3 : M ≤ 304 := by rw [hM]; exact HRd.out
          clear hM
          go_wp2_with fail
          go_loopw [84] (fun i u' => ∃ k : Nat, k ≤ M ∧ i = .int .i64 (k : Int) ∧ Below wq.heap.size wq u' ∧ Box u' tb (sixOf F) 24) (fun i _ => M - (civ i).toNat)
          case atStart => exact ⟨0, by omega, rfl, HX.out.1, HX.out.2.1⟩
          case round =>
            obtain ⟨k, hk, rfl, hb1, hx1⟩ := hrel
            have HX1 : Hid (Below wq.heap.size wq wr ∧ Box wr tb (sixOf F) 24) := ⟨hb1, hx1⟩
            clear hb1 hx1
            by_cases hkt : k < M
            · obtain ⟨q, hq⟩ : ∃ q, h.rd[k]? = some q := ⟨_, List.getElem?_eq_getElem (by rw [← HM.out]; exact hkt)⟩
              have f2 := HH.out wr (HQ.out.1.trans (HX1.out.1.mono HQ.out.1.size))
              obtain ⟨g2, e2, k0, k1⟩ := f2.rr k q hq
              subst e2
              have hqm : q ∈ h.rd := List.mem_of_getElem? hq
              have hq6 : 0 ≤ q.1 ∧ q.1 < 6 := HIn.out.rd q hqm
              have hqv : F q.1 = q.2 := HOp.out q hqm
              obtain ⟨x, y⟩ := q
              dsimp only at k0 k1 hq6 hqv
              have hkn : (k : Int) < (M : Int) := by omega
              clear f2 hq hqm
              go_upto_region 22 with fail
              obtain ⟨i, rfl⟩ : ∃ i : Nat, x = (i : Int) := ⟨x.toNat, by omega⟩
              have hi6 : i < 6 := by omega
              have hi6' : (i : Int) < 6 := by omega
              obtain ⟨wc, hwc⟩ : ∃ wc, wc = wr.alloc (.cells #[.int .i64 (i : Int), .int .i64 y] 35) := ⟨_, rfl⟩
              obtain ⟨ob, hob⟩ : ∃ ob, ob = wr.heap.size := ⟨_, rfl⟩
              have bo : Box wc ob #[.int .i64 (i : Int), .int .i64 y] 35 := by rw [hwc, hob]; exact Box.new wr _ 35
              have bt : Box wc tb (sixOf F) 24 := by rw [hwc]; exact HX1.out.2.alloc _
              have HB6 : Hid (Below wq.heap.size wq wc ∧ Box wc tb (sixOf F) 24) := ⟨by rw [hwc]; exact HX1.out.1.alloc HX1.out.1.size _, bt⟩
              rw [← hwc, ← hob]
              have e0 : wc.cell? ⟨ob, 0, none⟩ = some (.int .i64 (i : Int)) := bo.cell 0
              have e1 : wc.cell? ⟨ob, 1, none⟩ = some (.int .i64 y) := bo.cell 1
              have e2 : wc.cell? ⟨tb, i, none⟩ = some (.int .i64 y) := by
                rw [bt.cell i, ← hqv]
                have : i = 0 ∨ i = 1 ∨ i = 2 ∨ i = 3 ∨ i = 4 ∨ i = 5 := by omega
                rcases this with rfl | rfl | rfl | rfl | rfl | rfl <;> rfl
              clear hwc hob bo bt HX1 HX k0 k1 hqv cv hq6
              go_quiet (fail)
              obtain ⟨wd, hwd⟩ : ∃ wd, wd = wc.drewN nq := ⟨_, rfl⟩
              rw [← hwd]
              have HB7 : Hid (Below wq.heap.size wq wd ∧ Box wd tb (sixOf F) 24) := by
                obtain ⟨p1, p2⟩ := HB6.out
                rw [hwd]
                exact ⟨⟨p1.os, p1.tape, p1.output, p1.size, p1.block⟩, p2⟩
              clear hwd HB6 e0 e1 e2
              go_wp2_with fail
              go_roundw
              case rel => exact ⟨k + 1, by omega, by go_num, HB7.out.1, HB7.out.2⟩
              case measure => simp only [civ]; omega
            · have hkn : ¬ (k : Int) < (M : Int) := by omega
              have HB5 : Hid (Below wq.heap.size wq wr) := HX1.out.1
              clear HX1 HX
              go_wp2_with fail
              go_roundw
              case rel => exact ⟨j + 1, most, by omega, by go_num, rfl, by obtain ⟨z1, z2, sf', n', z3, z4, z5⟩ := HQ.out; exact ⟨z1.trans (HB5.out.mono z1.size), z2.below HB5.out z2.lt, sf', n', z3, z4.below HB5.out, z5⟩⟩
              case measure => simp only [civ]; omega
        · have hwl : 0 < h.wr.length := List.length_pos_iff.2 hw
          have hcm : h.cm := ⟨hd, hw⟩
          have hv1 := hvs.2 hwl
          have hvv := hvs.1
          have HOP : Hid (∀ p ∈ h.rd, atP A (h.ver - 1).toNat p.1 = p.2) := by
            rw [if_pos hwl] at hser
            exact hser
          have hsn : sf h.ver = none := by
            cases hs : sf h.ver with
            | none => rfl
            | some x =>
              obtain ⟨i, hi, h', hh', hc', hv'⟩ := q5.sn h.ver (by rw [hs]; rfl)
              exact absurd hv' (HL.out.uni i j h' h hh' HA.out (by omega) hc' hcm)
          have hwf : (Lit.int .i64 h.ver).wf = true := WalkArith.wf_i64 (by omega)
          have hlook := q4.look 27 4 (.bool false) Try.underlying27 Try.zeroValue4 h.ver hwf
          rw [hsn] at hlook
          simp only [Option.getD_none] at hlook
          obtain ⟨wu, hrun, hmu, hgu⟩ := q4.update (by unfold maxLen; omega) 27 4 Try.underlying27 h.ver hwf (.bool true)
          have hlw : (0 : Int) < (h.wr.length : Int) := by omega
          have hmm1 := q5.m0
          have hmm2 := q5.m1
          have HQ2 : Hid (Below w1.heap.size w1 wu ∧ Box wu lb (sixOf f) 24 ∧ ∃ sf n, n ≤ j + 1 ∧ MapJ wu sb n sf ∧ Met A (j + 1) (max most h.ver) sf) := by
            have hsz := q1.size
            have hlbne : sb ≠ lb := by have := HLS.out; omega
            exact ⟨q1.grown hgu q1.size (fun i hi => by injection hi with hi; have := HLS.out.2; omega), (hgu.block lb q2.lt (fun e => hlbne (by injection e with e; exact e.symm))).trans q2, _, nn + 1, by omega, hmu, q5.more HA.out hcm hvs.1 _⟩
          have HQ := HQ2
          have HV := hid hvv
          have hh1 := HH.out wu HQ2.out.1
          have dr := hh1.at1.vr
          have dmb := hh1.at1.mb
          have dlen := fun ty => hh1.at1.mp.len 30 3 Try.underlying30 ty
          obtain ⟨wl, hwl2⟩ : ∃ wl, wl = h.wr.length := ⟨_, rfl⟩
          rw [← hwl2] at clen dlen hlw
          have r1 : IntKind.i64.wrap (h.ver - 1) = h.ver - 1 := by rw [IntKind.wrap_i64]; omega
          clear q1 q2 q3 q4 q5 HQ1 HQ2 hser hvs hd hw hwl hgd hmu hgu hwf hsn hcm hh1 hwl2 hvv
          obtain ⟨vv, hvv2⟩ : ∃ vv, vv = h.ver - 1 := ⟨_, rfl⟩
          have hvv : vv ≤ 1099511627776 := by have := HV.out; omega
          rw [← hvv2] at HOP r1
          have r1w : wrap64 (h.ver - 1) = vv := (IntWalk.wrap64_in _ (by omega)).trans hvv2.symm
          obtain ⟨wq, hwq⟩ : ∃ wq, wq = wu := ⟨_, rfl⟩
          subst hwq
          have HVV := hid hvv2
          clear hvv2
          have ca := HL.out.att wq HQ.out.1 vv hvv
          unfold sixOf at ca
          obtain ⟨F, hF⟩ : ∃ F, F = atP A vv.toNat := ⟨_, rfl⟩
          rw [← hF] at ca
          have HOp : Hid (∀ p ∈ h.rd, F p.1 = p.2) := by unfold Hid; rw [hF]; exact HOP.out
          clear hF
          go_wp2_with fail
          refine ca.mono ?_
          rintro r w2 ⟨rfl, hb2⟩
          have HB2 : Hid (Below wq.heap.size wq w2) := hb2
          clear hb2 ca
          go_upto_region 19 with fail
          obtain ⟨wb, hwb⟩ : ∃ wb, wb = w2.alloc (.cells #[.int .i64 (F 0), .int .i64 (F 1), .int .i64 (F 2), .int .i64 (F 3), .int .i64 (F 4), .int .i64 (F 5)] 24) := ⟨_, rfl⟩
          rw [← hwb]
          have HX : Hid (Below wq.heap.size wq wb ∧ Box wb w2.heap.size (sixOf F) 24 ∧ wq.heap.size ≤ w2.heap.size) := by
            rw [hwb]
            exact ⟨HB2.out.alloc HB2.out.size _, Box.new w2 _ 24, HB2.out.size⟩
          clear hwb HB2
          obtain ⟨tb, htb⟩ : ∃ tb, tb = w2.heap.size := ⟨_, rfl⟩
          rw [← htb] at HX ⊢
          clear htb
          have f1 := HH.out wb (HQ.out.1.trans (HX.out.1.mono HQ.out.1.size))
          have cv := f1.rv
          clear f1
          obtain ⟨M, hM⟩ : ∃ M, M = h.rd.length := ⟨_, rfl⟩
          rw [← hM] at cv
          have HM : Hid (M = h.rd.length) := hM
          have hM3 : M ≤ 304 := by rw [hM]; exact HRd.out
          clear hM
          go_wp2_with fail
          go_loopw [84] (fun i u' => ∃ k : Nat, k ≤ M ∧ i = .int .i64 (k : Int) ∧ Below wq.heap.size wq u' ∧ Box u' tb (sixOf F) 24) (fun i _ => M - (civ i).toNat)
          case atStart => exact ⟨0, by omega, rfl, HX.out.1, HX.out.2.1⟩
          case round =>
            obtain ⟨k, hk, rfl, hb1, hx1⟩ := hrel
            have HX1 : Hid (Below wq.heap.size wq wr ∧ Box wr tb (sixOf F) 24) := ⟨hb1, hx1⟩
            clear hb1 hx1
            by_cases hkt : k < M
            · obtain ⟨q, hq⟩ : ∃ q, h.rd[k]? = some q := ⟨_, List.getElem?_eq_getElem (by rw [← HM.out]; exact hkt)⟩
              have f2 := HH.out wr (HQ.out.1.trans (HX1.out.1.mono HQ.out.1.size))
              obtain ⟨g2, e2, k0, k1⟩ := f2.rr k q hq
              subst e2
              have hqm : q ∈ h.rd := List.mem_of_getElem? hq
              have hq6 : 0 ≤ q.1 ∧ q.1 < 6 := HIn.out.rd q hqm
              have hqv : F q.1 = q.2 := HOp.out q hqm
              obtain ⟨x, y⟩ := q
              dsimp only at k0 k1 hq6 hqv
              have hkn : (k : Int) < (M : Int) := by omega
              clear f2 hq hqm
              go_upto_region 22 with fail
              obtain ⟨i, rfl⟩ : ∃ i : Nat, x = (i : Int) := ⟨x.toNat, by omega⟩
              have hi6 : i < 6 := by omega
              have hi6' : (i : Int) < 6 := by omega
              obtain ⟨wc, hwc⟩ : ∃ wc, wc = wr.alloc (.cells #[.int .i64 (i : Int), .int .i64 y] 35) := ⟨_, rfl⟩
              obtain ⟨ob, hob⟩ : ∃ ob, ob = wr.heap.size := ⟨_, rfl⟩
              have bo : Box wc ob #[.int .i64 (i : Int), .int .i64 y] 35 := by rw [hwc, hob]; exact Box.new wr _ 35
              have bt : Box wc tb (sixOf F) 24 := by rw [hwc]; exact HX1.out.2.alloc _
              have HB6 : Hid (Below wq.heap.size wq wc ∧ Box wc tb (sixOf F) 24) := ⟨by rw [hwc]; exact HX1.out.1.alloc HX1.out.1.size _, bt⟩
              rw [← hwc, ← hob]
              have e0 : wc.cell? ⟨ob, 0, none⟩ = some (.int .i64 (i : Int)) := bo.cell 0
              have e1 : wc.cell? ⟨ob, 1, none⟩ = some (.int .i64 y) := bo.cell 1
              have e2 : wc.cell? ⟨tb, i, none⟩ = some (.int .i64 y) := by
                rw [bt.cell i, ← hqv]
                have : i = 0 ∨ i = 1 ∨ i = 2 ∨ i = 3 ∨ i = 4 ∨ i = 5 := by omega
                rcases this with rfl | rfl | rfl | rfl | rfl | rfl <;> rfl
              clear hwc hob bo bt HX1 HX k0 k1 hqv cv hq6
              go_quiet (fail)
              obtain ⟨wd, hwd⟩ : ∃ wd, wd = wc.drewN nq := ⟨_, rfl⟩
              rw [← hwd]
              have HB7 : Hid (Below wq.heap.size wq wd ∧ Box wd tb (sixOf F) 24) := by
                obtain ⟨p1, p2⟩ := HB6.out
                rw [hwd]
                exact ⟨⟨p1.os, p1.tape, p1.output, p1.size, p1.block⟩, p2⟩
              clear hwd HB6 e0 e1 e2
              go_wp2_with fail
              go_roundw
              case rel => exact ⟨k + 1, by omega, by go_num, HB7.out.1, HB7.out.2⟩
              case measure => simp only [civ]; omega
            · have hkn : ¬ (k : Int) < (M : Int) := by omega
              have HB5 : Hid (Below wq.heap.size wq wr) := HX1.out.1
              clear HX1 HX
              go_wp2_with fail
              go_roundw
              case rel => exact ⟨j + 1, max most h.ver, by omega, by go_num, rfl, by obtain ⟨z1, z2, sf', n', z3, z4, z5⟩ := HQ.out; exact ⟨z1.trans (HB5.out.mono z1.size), z2.below HB5.out z2.lt, sf', n', z3, z4.below HB5.out, z5⟩⟩
              case measure => simp only [civ]; omega
      · have hd2 : h.done = false := by simpa using hd
        rw [hd2] at cd
        have HQ2 : Hid (Below w1.heap.size w1 wr ∧ Box wr lb (sixOf f) 24 ∧ ∃ sf n, n ≤ j + 1 ∧ MapJ wr sb n sf ∧ Met A (j + 1) most sf) := ⟨q1, q2, sf, nn, by omega, q4, q5.skip HA.out (fun hc => hd hc.1)⟩
        clear q1 q2 q3 q4 q5 HQ1 clen cmb cvr hd hgd
        go_wp2_with fail
        go_roundw
        case rel => exact ⟨j + 1, most, by omega, by go_num, rfl, HQ2.out⟩
        case measure => simp only [civ]; omega
    · have hjn : ¬ (j : Int) < (N : Int) := by omega
      have hjN : j = N := by omega
      obtain ⟨q1, q2, sf, nn, q3, q4, q5⟩ := hrel.out
      have hlast := HL.out.last most q5.m0 (fun h hm hc => by
        obtain ⟨i, hi⟩ := List.getElem?_of_mem hm
        exact q5.le i (by have := (List.getElem?_eq_some_iff.1 hi).1; have := HL.out.len; omega) h hi hc)
      rw [hlast] at q2
      have hm2 := q5.m1
      obtain ⟨F, hF⟩ : ∃ F, F = atP A most.toNat := ⟨_, rfl⟩
      have cat : ∀ u, Below w1.heap.size w1 u → Calls Try.prog 6 #[.slice a N c, .int .i64 most] u fun r w' => r = .returned (.agg #[.int .i64 (F 0), .int .i64 (F 1), .int .i64 (F 2), .int .i64 (F 3), .int .i64 (F 4), .int .i64 (F 5)]) ∧ Below u.heap.size u w' := fun u hb => by rw [hF]; exact HL.out.att u hb most hm2
      rw [← hF] at q2
      obtain ⟨C, hC⟩ : ∃ C : World → Prop, C = fun u => Below w1.heap.size w1 u ∧ Box u lb (sixOf F) 24 := ⟨_, rfl⟩
      have keepC : ∀ x : Of C, ∀ w', Below x.u.heap.size x.u w' → C w' := fun x w' hb => by have := x.ok; subst hC; exact ⟨this.1.trans (hb.mono this.1.size), this.2.below hb this.2.lt⟩
      have hfacts : ∀ x : Of C, Below w1.heap.size w1 x.u ∧ Box x.u lb (sixOf F) 24 := fun x => by have := x.ok; subst hC; exact this
      have k0 : ∀ x : Of C, x.u.cell? ⟨lb, 0, none⟩ = some (.int .i64 (F 0)) := fun x => (hfacts x).2.cell 0
      have k1 : ∀ x : Of C, x.u.cell? ⟨lb, 1, none⟩ = some (.int .i64 (F 1)) := fun x => (hfacts x).2.cell 1
      have k2 : ∀ x : Of C, x.u.cell? ⟨lb, 2, none⟩ = some (.int .i64 (F 2)) := fun x => (hfacts x).2.cell 2
      have k3 : ∀ x : Of C, x.u.cell? ⟨lb, 3, none⟩ = some (.int .i64 (F 3)) := fun x => (hfacts x).2.cell 3
      have k4 : ∀ x : Of C, x.u.cell? ⟨lb, 4, none⟩ = some (.int .i64 (F 4)) := fun x => (hfacts x).2.cell 4
      have k5 : ∀ x : Of C, x.u.cell? ⟨lb, 5, none⟩ = some (.int .i64 (F 5)) := fun x => (hfacts x).2.cell 5
      have HK : Hid (∀ x : Of C, Below w1.heap.size w1 x.u) := fun x => (hfacts x).1
      have HK2 : ∀ x : Of C, Below w1.heap.size w1 x.u := fun x => (hfacts x).1
      haveI hne : Nonempty (Of C) := Of.some (w := wr) (by subst hC; exact ⟨q1, q2⟩)
      have hC0 : C wr.drew := by subst hC; exact ⟨⟨q1.os, q1.tape, q1.output, q1.size, q1.block⟩, q2⟩
      have HBW := hid HL.out.bel
      have heq := eq_six F
      clear hC hfacts q1 q2 q3 q4 q5 hlast hF hm2 hrel HL
      go_wp2_with fail
      refine wp_region_class C (by kernel_rfl) (by kernel_rfl) hC0 ?_
      clear hC0
      repeat (go_big_quiet_step (first | (go_at_call 6; exact Of.call _ (cat _ (HK2 _)) (keepC _)) | (go_at_call 7; exact Of.call _ (awake_at _) (keepC _))))
      refine wpQuiet_nil ?_
      rintro _ ⟨x, rfl⟩
      have HB2 : Hid (Below w.heap.size w x.u) := HBW.out.trans ((HK.out x).mono HBW.out.size)
      clear HK HK2 k0 k1 k2 k3 k4 k5 keepC cat
      go_wp2_with fail
      go_ret
      exact ⟨rfl, HB2.out⟩
end Go.Proofs.Ytafiopjgegmfoaa.T
