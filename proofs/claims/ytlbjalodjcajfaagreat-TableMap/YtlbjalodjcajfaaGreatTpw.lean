/-
  TableMap, walked.
-/
import Derived.Test.YtlbjalodjcajfaaGreatArg
import Derived.Deep.CutRange
import Derived.Deep.CutBlock
import Derived.Deep.LoopGhost
import Derived.Test.YtlbjalodjcajfaaGreatBgn
namespace Go.Proofs.YtlbjalodjcajfaaGreat
open Go.RowKit Go.Maps Go.Sort
theorem getP_at {P : List Pr} (ha : Asc P) {i : Nat} {p : Pr} (h : P[i]? = some p) : getP P p.1 = some p.2 := by
  induction P generalizing i with
  | nil => simp at h
  | cons a P ih =>
    unfold Asc at ha
    rw [List.pairwise_cons] at ha
    cases i with
    | zero =>
      simp at h
      subst h
      simp [getP]
    | succ i =>
      rw [List.getElem?_cons_succ] at h
      have h1 := ha.1 p (List.mem_of_getElem? h)
      have hne : a.1 ≠ p.1 := fun e => by
        rw [e] at h1
        have := blt_asymm h1
        rw [h1] at this
        cases this
      have := ih ha.2 h
      unfold getP at this ⊢
      rw [List.find?_cons_of_neg (by simpa using hne)]
      exact this
/-- no key of P is too long for a map -/
def Szs (P : List Pr) : Prop := ∀ p ∈ P, p.1.size ≤ maxLen
theorem Szs.del {P : List Pr} (h : Szs P) (k : ByteArray) : Szs (delP P k) := fun p hp => h p (List.mem_filter.1 hp).1
theorem Szs.ins {P : List Pr} (h : Szs P) {k : ByteArray} (hk : k.size ≤ maxLen) (v : ByteArray) : Szs (insP P k v) := fun p hp => by
  unfold insP at hp
  rcases List.mem_append.1 hp with hp | hp
  · exact h p ((List.takeWhile_prefix _).subset hp)
  · rcases List.mem_cons.1 hp with rfl | hp
    · exact hk
    · exact h p ((List.dropWhile_suffix _).subset (List.mem_filter.1 hp).1)
theorem RdO.at {u u' : World} {a : Option Addr} {l : List Oq} (h : RdO u a l) (hb : Below u.heap.size u u') (k : Nat) (hk : k < l.length) : ∃ (b o : Nat) (e : Oq), a = some ⟨b, o, none⟩ ∧ b < u'.heap.size ∧ u'.cell? ⟨b, o + k * 3, none⟩ = some (.int .i64 e.kind) ∧ u'.cell? ⟨b, o + k * 3 + 1, none⟩ = some (.string e.k) ∧ u'.cell? ⟨b, o + k * 3 + 2, none⟩ = some (.string e.v) ∧ e.k.size ≤ maxLen := by
  obtain ⟨b, o, h1, h2, h3⟩ := (h.below hb) k _ (List.getElem?_eq_getElem hk)
  exact ⟨b, o, _, h1, h2, h3⟩
set_option maxRecDepth 100000 in
set_option maxHeartbeats 40000000 in
theorem map_at {w : World} {a0 : Option Addr} {n0 c0 : Nat} {os : List Oq} (half : Int) (hl : os.length = n0) (hr : RdO w a0 os) (hn : n0 ≤ 9223372036854775807) :
    Calls Tryz.prog 3 #[.slice a0 n0 c0, .int .i64 half] w fun e w' => e = .returned (.bool true) ∧ Below w.heap.size w w' := by
  have HRD := hid hr
  have HL := hid hl
  have hmm := @run_makeMap Tryz.prog
  have cn := cnew_at w 70 (by decide) (by decide)
  rw [show ((70 : Nat) : Int) = 70 from rfl] at cn
  clear hr hl
  unfold ptr at *
  go_enter Tryz.func3, Tryz.ntmps3
  go_wp2_with fail
  refine cn.mono ?_
  rintro e w1 ⟨m, g, rfl, om, og, hmg, hm, hg, hb1⟩
  have HO : Hid (Rst w (w1.alloc (.map #[] 0)) m g w1.heap.size 0 (C0 70) [] 0) := {
    mb := ⟨hm.alloc _, hg.alloc _, by simp [C0]⟩
    om := om
    og := og
    wB := hb1.size
    k0 := Int.le_refl _
    hC := fun c hc => by rw [(List.mem_replicate.1 hc).2]; simp
    sg := by decide
    asc := List.Pairwise.nil
    le := by simp
    want := IsW.made w1
    bel := hb1.alloc hb1.size _ }
  clear cn hm hg hb1 hmg om og
  go_wp2_with fail
  obtain ⟨wb, hwb⟩ : ∃ wb, wb = w1.heap.size := ⟨_, rfl⟩
  rw [← hwb] at HO ⊢
  clear hwb
  go_loopw [8, 9] (fun s r u => ∃ (st rd : Nat) (k : Int) (C : List Cl) (P : List Pr) (N : Nat), s = .int .i64 (st : Int) ∧ r = .int .i64 (rd : Int) ∧ rd ≤ 2 ∧ st ≤ 80 ∧ st ≤ n0 ∧ N ≤ st ∧ k ≤ rd ∧ P.length ≤ 50 ∧ Szs P ∧ Hid (Rst w u m g wb k C P N)) (fun _ r _ => 2 - (iof r).toNat)
  case atStart => exact ⟨0, 0, 0, _, [], 0, by simp, by simp, by omega, by omega, by omega, by omega, by omega, by simp, (fun p hp => by cases hp), HO.out⟩
  case round =>
    clear HO
    obtain ⟨st, rd, k, C, P, N, rfl, rfl, hrd, hst, hst2, hNs, hkr, hP5, hZs, hrel⟩ := hrel
    obtain ⟨wa, hwa⟩ : ∃ wa, wa = wr := ⟨_, rfl⟩
    subst hwa
    by_cases hgo : rd < 2
    · have hi1 : (rd : Int) < 2 := by omega
      have cb := hrel.out.begin
      have HRS := hid hrel.out
      clear hrel
      unfold ptr at *
      go_wp2_with fail
      refine cb.mono ?_
      rintro e w2 ⟨x, rfl, o, hT, ho1, ho2⟩
      have co := of_at (base := 5) (n := 60) hT (by decide) (by decide) (by rw [List.length_map, HRS.out.mb.hl]; decide)
      have HW2 := hid (And.intro ho1 ho2)
      clear cb hT ho1 ho2
      unfold ptr at *
      go_wp2_with fail
      refine co.mono ?_
      rintro e w3 ⟨t, rfl, _, hT⟩
      have hTW : TW w w3 m g k wb x t 5 60 70 P P N [tb t x 5 60] := by
        have hp : HasP (m, g, k, [(wb, o)]) w w3 x t 5 60 70 P [tb t x 5 60] (C.map (·.e)) := ⟨hT, List.mem_singleton_self _, by decide, by rw [List.length_map, HRS.out.mb.hl], by decide, HRS.out.sg, HRS.out.asc, HRS.out.le⟩
        exact ⟨o, _, hp, HRS.out.want.stay (hp.map.trans HW2.out.2.symm), HRS.out.wB⟩
      have HTW := hid hTW
      have HK0 := hid HRS.out.k0
      clear co hT HW2 HRS hTW
      unfold ptr at *
      go_wp2_with fail
      go_loopw [8] (fun s u => ∃ (st : Nat) (P : List Pr) (N : Nat), s = .int .i64 (st : Int) ∧ st ≤ 80 ∧ st ≤ n0 ∧ N ≤ st ∧ P.length ≤ 50 ∧ Szs P ∧ Hid (TW w u m g k wb x t 5 60 70 P P N [tb t x 5 60])) (fun s _ => 80 - (iof s).toNat)
      case atStart => exact ⟨st, P, N, by simp, hst, hst2, hNs, hP5, hZs, HTW.out⟩
      case round =>
        clear HTW
        clear hst hst2 hNs hP5 hZs
        obtain ⟨st, P, N, rfl, hst, hst2, hNs, hP5, hZs, hrel⟩ := hrel
        obtain ⟨wc, hwc⟩ : ∃ wc, wc = wr := ⟨_, rfl⟩
        subst hwc
        have HT2 := hid hrel.out
        clear hrel
        go_upto_region 15 with fail
        go_cut [68] from 52 to 68 (fun v u => ∃ z : Bool, v = .bool z ∧ (z = true → st < n0 ∧ st < 80) ∧ u = wc)
        case first =>
          by_cases h1 : st < n0
          · have k1 : (st : Int) < (n0 : Int) := by omega
            by_cases h2 : st < 80
            · have k2 : (st : Int) < 80 := by omega
              have hz : Hid (st < n0 ∧ st < 80) := ⟨h1, h2⟩
              by_cases h3 : rd = 1
              · subst h3
                go_wp2_with fail
                go_meet
                case rel => exact ⟨true, rfl, fun _ => hz.out, rfl⟩
              · have k3 : ¬ (rd : Int) = 1 := by omega
                have k3' : ((rd : Int) == 1) = false := by simpa using k3
                by_cases h4 : (st : Int) < half
                · go_wp2_with fail
                  go_meet
                  case rel => exact ⟨true, (by simp), fun _ => hz.out, rfl⟩
                · go_wp2_with fail
                  go_meet
                  case rel => exact ⟨false, (by simp), fun e => (by cases e), rfl⟩
            · have k2 : ¬ (st : Int) < 80 := by omega
              go_wp2_with fail
              go_meet
              case rel => exact ⟨false, rfl, fun e => (by cases e), rfl⟩
          · have k1 : ¬ (st : Int) < (n0 : Int) := by omega
            go_wp2_with fail
            go_meet
            case rel => exact ⟨false, rfl, fun e => (by cases e), rfl⟩
        case rest =>
          obtain ⟨z, rfl, hz, hw⟩ := hcut
          subst hw
          cases z with
          | false =>
            clear hz
            have C1 := HT2.out.list
            have hln := fun u (h : TW w u m g k wb x t 5 60 70 P P N ((0, #[], 0) :: [])) => h
            obtain ⟨pl, hpl⟩ : ∃ pl, pl = P.length := ⟨_, rfl⟩
            rw [← hpl] at C1
            have HPL : Hid (P.length ≤ 50 ∧ pl = P.length) := ⟨hP5, hpl⟩
            have HSZ := hid hZs
            have HA := hid HT2.out.asc
            clear hln hpl hP5 hZs HT2
            unfold ptr at C1
            go_wp2_with fail
            refine C1.mono ?_
            rintro e v1 ⟨q, hq, rfl, m1⟩
            have m2 := m1.box #[.slice (some ⟨q, 0, none⟩) pl 60] 42
            have hbx := m2.bK _ (List.mem_cons_self ..)
            have e0 := hbx.cell 0
            simp at e0
            have hln := m2.want.len HA.out 29 Tryz.underlying29 3
            rw [← HPL.out.2] at hln
            have hbq := m2.bK _ (List.mem_cons_of_mem _ (List.mem_cons_self ..))
            have hrd : RdE (v1.alloc (.cells #[.slice (some ⟨q, 0, none⟩) pl 60] 42)) (some ⟨q, 0, none⟩) (P.map us) := fun i e hi => by
              rw [List.getElem?_map] at hi
              obtain ⟨p, hp, rfl⟩ := Option.map_eq_some_iff.1 hi
              exact rdE_flat hbq i _ (tbl_lo hp)
            have C2 := right_at (n := pl) (c := 60) hrd (by rw [List.length_map, HPL.out.2]) (by have := HPL.out; omega)
            have hrt : Rgt (P.map us) = true := by
              have := rgt_tbl (n := P.length) HA.out
              rwa [show tbl P.length P = P.map us by simp [tbl]] at this
            rw [hrt] at C2
            have M2 := hid m2
            clear C1 hq hrt m1 m2 hbx hbq hrd
            go_upto_region 29 with fail
            go_cut [146] from 126 to 146 (fun v u => v = .bool false ∧ Hid (TW w u m g k wb x t 5 60 70 P P N ((v1.heap.size, #[.slice (some ⟨q, 0, none⟩) pl 60], 42) :: (q, (flat eE (tbl 60 P)).toArray, 28) :: [tb t x 5 60])))
            case first =>
              go_wp2_with (first | (go_at_call 10; refine Calls.mono C2 ?_; rintro e v2 ⟨rfl, hb2⟩; have m3 := M2.out.below hb2; have hbx := m3.bK _ (List.mem_cons_self ..); have hbq := m3.bK _ (List.mem_cons_of_mem _ (List.mem_cons_self ..)); have e0' := hbx.cell 0; simp at e0'; have C3 := sis_at hbx HPL.out.2.symm (by have := HPL.out; omega) HA.out (fun i x hx => by have := (rdE_flat hbq i _ (tbl_lo hx)); obtain ⟨b', o', h1, h2, h3, h4, h5⟩ := this; injection h1 with h1; injection h1 with h1 h1'; subst h1 h1'; simpa [us] using h4) hbq.lt; unfold ptr at C3; have M3 := hid m3; clear m3 hbx hbq hb2) | (go_at_call 11; refine Calls.mono C3 ?_; rintro e v3 ⟨rfl, hb3⟩; have M4 := hid (M3.out.below hb3); clear hb3) | fail)
              all_goals (go_meet; case rel => exact ⟨rfl, M4.out⟩)
            case rest =>
              obtain ⟨rfl, hM⟩ := hcut
              have hbx := hM.out.bK _ (List.mem_cons_self ..)
              have e0 := hbx.cell 0
              simp at e0
              have HM := hid hM.out
              clear hM hbx M2 hln
              go_wp2_with fail
              go_loopw [149] (fun v u => ∃ i : Nat, i ≤ pl ∧ v = .int .i64 (i : Int) ∧ Hid (TW w u m g k wb x t 5 60 70 P P N ((v1.heap.size, #[.slice (some ⟨q, 0, none⟩) pl 60], 42) :: (q, (flat eE (tbl 60 P)).toArray, 28) :: [tb t x 5 60]))) (fun v _ => pl - (iof v).toNat)
              case atStart => exact ⟨0, by omega, by simp, HM.out⟩
              case round =>
                clear HM
                obtain ⟨i, hi, rfl, hrel⟩ := hrel
                by_cases hlt : i < pl
                · have hlt' : (i : Int) < (pl : Int) := by omega
                  have hiP : i < P.length := by rw [← HPL.out.2]; exact hlt
                  have hbq := hrel.out.bK _ (List.mem_cons_of_mem _ (List.mem_cons_self ..))
                  obtain ⟨b', o', hq1, hq2, hq3, hq4, hq5⟩ := rdE_flat hbq i _ (tbl_lo (List.getElem?_eq_getElem hiP))
                  injection hq1 with hq1
                  injection hq1 with hq1 hq1'
                  subst hq1 hq1'
                  have hget := getP_at HA.out (List.getElem?_eq_getElem hiP)
                  have hks := HSZ.out _ (List.getElem_mem hiP)
                  simp only [us] at hq3 hq4 hq5
                  generalize P[i]'hiP = pp at *
                  obtain ⟨pk, pv⟩ := pp
                  simp only [Nat.zero_add] at hq3 hq4 hq5 hget hks
                  have h3 := hrel.out.box #[.bool true, .string pk, .string pv] 28
                  have hb3 := h3.bK _ (List.mem_cons_self ..)
                  have d0 := hb3.cell 0
                  have d1 := hb3.cell 1
                  have d2 := hb3.cell 2
                  simp at d0 d1 d2
                  have hlk := h3.want.look 29 Tryz.underlying29 (fun w => by simp [go_sem]) pk hks
                  have wr3 : IntKind.i64.wrap ((i : Int) + 1) = ((i + 1 : Nat) : Int) := by rw [IntKind.wrap_i64]; have := HPL.out; omega
                  rw [hget] at hlk
                  simp only [Option.getD_some, Option.isSome_some] at hlk
                  have H3 := hid (h3.less (K' := ((v1.heap.size, #[.slice (some ⟨q, 0, none⟩) pl 60], 42) :: (q, (flat eE (tbl 60 P)).toArray, 28) :: [tb t x 5 60])) (fun y hy => List.mem_cons_of_mem _ hy) (by simp))
                  clear h3 hb3 hrel hbq hget hq2
                  go_wp2_with fail
                  go_roundw
                  case rel => exact ⟨i + 1, by omega, by simp, H3.out⟩
                  case measure => simp only [iof]; omega
                · have hlt' : ¬ (i : Int) < (pl : Int) := by omega
                  obtain ⟨s, C', S, Fs, O, hrun, hok, hlen, hfin⟩ := hrel.out.ending HK0.out (by omega)
                  have HR0 := hid hrun
                  have HOK := hid hok
                  have HFIN := hid hfin
                  obtain ⟨nn, hnn⟩ : ∃ nn, nn = (ends S).length := ⟨_, rfl⟩
                  rw [← hnn] at hlen
                  have HNN := hid hnn
                  clear hrel hrun hok hfin hnn
                  go_wp2_with fail
                  go_loopw [24] (fun v u => ∃ i : Nat, i ≤ nn ∧ v = .int .i64 (i : Int) ∧ Hid (Run O w u x m g s 70 k k C' S ((v1.heap.size, #[.slice (some ⟨q, 0, none⟩) pl 60], 42) :: (q, (flat eE (tbl 60 P)).toArray, 28) :: [tb t x 5 60]) Fs i)) (fun v _ => nn - (iof v).toNat)
                  case atStart => exact ⟨0, by omega, by simp, HR0.out⟩
                  case round =>
                    clear HR0
                    obtain ⟨j, hj, rfl, hrel⟩ := hrel
                    have j300 : (j : Int) < 300 := by omega
                    obtain ⟨sv, hsv, cs⟩ := hrel.out.status (by rw [← HNN.out]; exact hj)
                    by_cases hlt2 : j < nn
                    · have hs3 : ¬ sv = 3 := fun e => by have := hsv.1 e; have := HNN.out; omega
                      have cst := hrel.out.step (by rw [← HNN.out]; exact hlt2) HOK.out
                      have wr1 : IntKind.i64.wrap ((j : Int) + 1) = ((j + 1 : Nat) : Int) := by rw [IntKind.wrap_i64]; omega
                      have hs4 : (sv == 3) = false := by simpa using hs3
                      clear hsv hrel
                      unfold ptr at cs cst
                      go_wp2_with fail
                      refine cs.mono ?_
                      rintro e v5 ⟨rfl, rfl⟩
                      go_wp2_with fail
                      refine cst.mono ?_
                      rintro e v6 ⟨⟨st6, rfl⟩, r6⟩
                      have HR6 := hid r6
                      clear cs cst r6
                      go_wp2_with fail
                      go_roundw
                      case rel => exact ⟨j + 1, by omega, by simp, HR6.out⟩
                      case measure => simp only [iof]; omega
                    · have hs3 : sv = 3 := hsv.2 (by have := HNN.out; omega)
                      subst hs3
                      have hje : j = (ends S).length := by have := HNN.out; omega
                      subst hje
                      obtain ⟨k', C2, hrst, hk'⟩ := HFIN.out _ hrel.out
                      have HRS := hid hrst
                      have wr2 : IntKind.i64.wrap ((rd : Int) + 1) = ((rd + 1 : Nat) : Int) := by rw [IntKind.wrap_i64]; omega
                      clear hsv hrel hrst
                      unfold ptr at cs
                      go_wp2_with fail
                      refine cs.mono ?_
                      rintro e v5 ⟨rfl, rfl⟩
                      clear cs
                      go_wp2_with fail
                      go_roundw
                      case rel => exact ⟨st, rd + 1, k', C2, P, N, by simp, by simp, by omega, hst, hst2, hNs, by omega, HPL.out.1, HSZ.out, HRS.out⟩
                      case measure => simp only [iof]; omega
          | true =>
            as_aux_lemma =>
            obtain ⟨hs1, hs2⟩ := hz rfl
            clear hz
            have k1 : (st : Int) < (n0 : Int) := by omega
            obtain ⟨b0, o0, ⟨xk, xa, xv⟩, rfl, hbl, c0', c1', c2', hkz⟩ := HRD.out.at HT2.out.bel st (by rw [HL.out]; exact hs1)
            simp only at c0' c1' c2' hkz
            have h3 := HT2.out.box #[.int .i64 xk, .string xa, .string xv] 37
            have hbx := h3.bK _ (List.mem_cons_self ..)
            have d0 := hbx.cell 0
            have d1 := hbx.cell 1
            have d2 := hbx.cell 2
            simp at d0 d1 d2
            have hlk := h3.want.look 29 Tryz.underlying29 (fun w => by simp [go_sem]) xa hkz
            have hln := h3.want.len HT2.out.asc 29 Tryz.underlying29 3
            have HA := hid HT2.out.asc
            have HZ9 := hid hkz
            have HSZ := hid hZs
            clear hZs
            have H3 := hid h3
            obtain ⟨z2, hz2⟩ : ∃ z2, z2 = (getP P xa).isSome := ⟨_, rfl⟩
            obtain ⟨vl, hvl⟩ : ∃ vl, vl = (getP P xa).getD ⟨#[]⟩ := ⟨_, rfl⟩
            obtain ⟨pl, hpl⟩ : ∃ pl, pl = P.length := ⟨_, rfl⟩
            rw [← hz2, ← hvl] at hlk
            rw [← hpl] at hln
            have HPL : Hid (P.length ≤ 50 ∧ pl = P.length) := ⟨hP5, hpl⟩
            have HZ2 := hid hz2
            clear h3 hbx HT2 hP5 hz2 hvl hpl
            by_cases hk4 : xk < 4
            · cases z2 with
              | false =>
                by_cases hf : pl = 50
                · subst hf
                  have HF : Hid (TW w (wc.alloc (.cells #[.int .i64 xk, .string xa, .string xv] 37)) m g k wb x t 5 60 70 P P N [tb t x 5 60]) := H3.out.less (fun y hy => List.mem_cons_of_mem _ hy) (List.mem_singleton_self _)
                  go_wp2_with fail
                  go_roundw
                  case rel => exact ⟨st + 1, P, N, by simp, by omega, by omega, by omega, HPL.out.1, HSZ.out, HF.out⟩
                  case measure => simp only [iof]; omega
                · have hf' : ¬ (pl : Int) = 50 := by omega
                  have hf2 : ((pl : Int) == 50) = false := by simpa using hf'
                  have C1 := H3.out.put (by have := HPL.out.1; omega) xa xv
                  unfold ptr at C1
                  go_wp2_with fail
                  refine C1.mono ?_
                  rintro e v1 ⟨rfl, m1⟩
                  have hb1 := m1.bK _ (List.mem_cons_self ..)
                  have e1 := hb1.cell 1
                  have e2 := hb1.cell 2
                  simp at e1 e2
                  obtain ⟨v2, r2, i2, g2⟩ := m1.want.put (by unfold maxLen; omega) 29 Tryz.underlying29 xa xv HZ9.out
                  have HF : Hid (TW w v2 m g k wb x t 5 60 70 (insP P xa xv) (insP P xa xv) (N + 1) [tb t x 5 60]) := (m1.grown i2 g2).less (fun y hy => List.mem_cons_of_mem _ hy) (List.mem_singleton_self _)
                  have hlen : Hid ((insP P xa xv).length ≤ 50) := by
                    have := insP_len_no HA.out xv HZ2.out.symm
                    have := HPL.out
                    unfold Hid
                    omega
                  clear C1 m1 hb1 i2 g2 hlk hln
                  go_wp2_with fail
                  go_roundw
                  case rel => exact ⟨st + 1, _, N + 1, by simp, by omega, by omega, by omega, hlen.out, HSZ.out.ins HZ9.out xv, HF.out⟩
                  case measure => simp only [iof]; omega
              | true =>
                have C1 := H3.out.put (by have := HPL.out.1; omega) xa xv
                unfold ptr at C1
                go_wp2_with fail
                refine C1.mono ?_
                rintro e v1 ⟨rfl, m1⟩
                have hb1 := m1.bK _ (List.mem_cons_self ..)
                have e1 := hb1.cell 1
                have e2 := hb1.cell 2
                simp at e1 e2
                obtain ⟨v2, r2, i2, g2⟩ := m1.want.put (by unfold maxLen; omega) 29 Tryz.underlying29 xa xv HZ9.out
                have HF : Hid (TW w v2 m g k wb x t 5 60 70 (insP P xa xv) (insP P xa xv) (N + 1) [tb t x 5 60]) := (m1.grown i2 g2).less (fun y hy => List.mem_cons_of_mem _ hy) (List.mem_singleton_self _)
                have hlen : Hid ((insP P xa xv).length ≤ 50) := by
                  have := insP_len_has HA.out xv HZ2.out.symm
                  have := HPL.out
                  unfold Hid
                  omega
                clear C1 m1 hb1 i2 g2 hlk hln
                go_wp2_with fail
                go_roundw
                case rel => exact ⟨st + 1, _, N + 1, by simp, by omega, by omega, by omega, hlen.out, HSZ.out.ins HZ9.out xv, HF.out⟩
                case measure => simp only [iof]; omega
            · have C1 := H3.out.remove xa
              rw [← HZ2.out] at C1
              unfold ptr at C1
              go_wp2_with fail
              refine C1.mono ?_
              rintro e v1 ⟨rfl, m1⟩
              have hb1 := m1.bK _ (List.mem_cons_self ..)
              have e1 := hb1.cell 1
              simp at e1
              obtain ⟨v2, r2, i2, g2⟩ := m1.want.del 29 Tryz.underlying29 xa HZ9.out 0
              have HF : Hid (TW w v2 m g k wb x t 5 60 70 (delP P xa) (delP P xa) N [tb t x 5 60]) := (m1.grown i2 g2).less (fun y hy => List.mem_cons_of_mem _ hy) (List.mem_singleton_self _)
              have hlen : Hid ((delP P xa).length ≤ 50) := Nat.le_trans (List.length_filter_le ..) HPL.out.1
              clear C1 m1 hb1 i2 g2 hlk hln
              go_wp2_with fail
              go_roundw
              case rel => exact ⟨st + 1, _, N, by simp, by omega, by omega, by omega, hlen.out, HSZ.out.del xa, HF.out⟩
              case measure => simp only [iof]; omega
    · have C7 := awake_at wa
      have hi1 : ¬ (rd : Int) < 2 := by omega
      have HB : Hid (Below w.heap.size w wa) := hrel.out.bel
      clear hrel
      go_wp2_with fail
      refine Calls.mono C7 ?_
      rintro e v7 ⟨rfl, b7⟩
      have B7 : Hid (Below w.heap.size w v7) := HB.out.trans (b7.mono HB.out.size)
      clear C7 b7
      go_wp2_with fail
      go_ret
      exact ⟨rfl, B7.out⟩
end Go.Proofs.YtlbjalodjcajfaaGreat
