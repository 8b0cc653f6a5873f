/-
  TableNone, walked.
-/
import Derived.Test.YtlbjalodjcajfaaNna
namespace Go.Proofs.Ytlbjalodjcajfaa
open Go.RowKit Go.Maps
theorem RdE.take {u : World} {a : Option Addr} {l : List En} (n : Nat) (h : RdE u a l) : RdE u a (l.take n) := fun i e hi => by
  rw [List.getElem?_take] at hi
  split at hi
  · exact h i e hi
  · cases hi
set_option maxRecDepth 100000 in
set_option maxHeartbeats 8000000 in
theorem none_at {w : World} {a : Option Addr} {n cap : Nat} {l : List En} (hl : l.length = n) (hr : RdE w a l) (hc : n ≤ cap) (hcap : cap ≤ 9223372036854775807) :
    Calls Try.prog 5 #[.slice a n cap] w fun r w' => r = .returned (.bool true) ∧ Below w.heap.size w w' := by
  have HAW := hid (fun u : World => awake_at u)
  have HR := hid (And.intro hl hr)
  have hq := eql27
  have hgd := guardN27 .eql
  have cof := of_nil (w.alloc (.cells #[.pointer none, .pointer none, .int .i64 0, .int .i64 0] 65)) 0 1
  have cget := get_nil (noB_nil (w.alloc (.cells #[.pointer none, .pointer none, .int .i64 0, .int .i64 0] 65))) (s1 97)
  have clist := list_err (Q := fun w' => w' = w.alloc (.cells #[.pointer none, .pointer none, .int .i64 0, .int .i64 0] 65)) (read_none (noB_zero (Box.new w #[.pointer none, .pointer none, .int .i64 0, .int .i64 0] 65))) (by decide)
  have cput := put_nil (noB_nil (w.alloc (.cells #[.pointer none, .pointer none, .int .i64 0, .int .i64 0] 65))) (s1 97) (s1 98)
  have cpick := pick_at (w.alloc (.cells #[.pointer none, .pointer none, .int .i64 0, .int .i64 0] 65)) n 20 (by decide) (by decide)
  have HB1 := hid ((Below.refl w.heap.size w).alloc (Nat.le_refl _) (.cells #[.pointer none, .pointer none, .int .i64 0, .int .i64 0] 65))
  have hp1 : n % 20 ≤ n := Nat.mod_le _ _
  have hp2 : n % 20 < 20 := Nat.mod_lt _ (by decide)
  generalize n % 20 = p at *
  clear hl hr
  unfold ag at hq
  go_enter Try.func5, Try.ntmps5
  go_wp2_with (first | (go_at_call 8; with_reducible refine Calls.mono cof ?_; rintro e wx ⟨rfl, hwx⟩; subst wx) | (go_at_call 15; with_reducible refine Calls.mono cget ?_; rintro e wx ⟨rfl, hwx⟩; subst wx) | (go_at_call 10; with_reducible refine Calls.mono clist ?_; rintro e wx ⟨rfl, hwx⟩; subst wx) | (go_at_call 9; with_reducible refine Calls.mono cput ?_; rintro e wx ⟨rfl, hwx⟩; subst wx) | (go_at_call 21; with_reducible refine Calls.mono cpick ?_; rintro e wx ⟨rfl, hwx⟩; subst wx))
  clear cof cget clist cput cpick
  go_loopw [13, 14] (fun v i u => ∃ j : Nat, j ≤ p ∧ i = .int .i64 (j : Int) ∧ Hid (v = .bool (upR l j) ∧ Below w.heap.size w u)) (fun _ i _ => p - (iof i).toNat)
  case atStart => exact ⟨0, Nat.zero_le _, by simp, rfl, HB1.out⟩
  case round =>
    clear HB1
    obtain ⟨j, hj, rfl, hrel⟩ := hrel
    obtain ⟨z, hz⟩ : ∃ z, z = upR l j := ⟨_, rfl⟩
    have hv := hrel.out.1
    rw [← hz] at hv
    subst hv
    have HB := hid (And.intro hz hrel.out.2)
    clear hz hrel
    by_cases hlt : j < p
    · have hki : (j : Int) < (p : Int) := by omega
      have hjn : (j : Int) < (n : Int) := by omega
      cases z with
      | false =>
        have HF : Hid (∀ q, (Value.bool false = .bool (upR l (j + 1))) ∧ Below w.heap.size w (wr.drewN q)) := fun q => ⟨by rw [upR_succ, ← HB.out.1]; rfl, below_drewN HB.out.2 q⟩
        clear HB
        go_wp2_with fail
        go_quiet (fail)
        go_wp2_with fail
        go_roundw
        case rel => exact ⟨j + 1, by omega, by simp, HF.out _⟩
        case measure => simp only [iof]; omega
      | true =>
        have hjl : j < l.length := by rw [HR.out.1]; omega
        have hx := List.getElem?_eq_getElem hjl
        obtain ⟨e, hee⟩ : ∃ e, e = l[j] := ⟨_, rfl⟩
        rw [← hee] at hx
        obtain ⟨b, o, rfl, hbl, c0, c1, c2⟩ := (HR.out.2.below HB.out.2) j e hx
        have HO : Hid (okAt l j = if e.u then (match j with | 0 => true | i + 1 => match l[i]? with | none => true | some p => p.u && blt p.k e.k) else decide (e = E0)) := by unfold okAt; rw [hx]; rfl
        have HF : Hid (∀ z q, okAt l j = z → (Value.bool z = .bool (upR l (j + 1))) ∧ Below w.heap.size w (wr.drewN q)) := fun z q h => ⟨by rw [upR_succ, ← HB.out.1, h]; rfl, below_drewN HB.out.2 q⟩
        have hqe := fun u => hq u e E0
        have hz : (zeroValue 27).run Try.prog wr = .ok (.agg #[.bool false, .string ⟨#[]⟩, .string ⟨#[]⟩]) wr := Try.zeroValue27 _
        by_cases hE : e = E0
        · have hd : decide (e = E0) = true := decide_eq_true hE
          have hok : okAt l j = true := by rw [HO.out, hE]; rfl
          rw [hd] at hqe
          subst hE
          simp only [E0] at hqe c0 c1 c2
          have HF2 := hid (fun q => HF.out true q hok)
          clear HF HO hok hd hx hee hbl HB
          go_wp2_with fail
          go_quiet (fail)
          go_wp2_with fail
          go_roundw
          case rel => exact ⟨j + 1, by omega, by simp, HF2.out _⟩
          case measure => simp only [iof]; omega
        · have hd : decide (e = E0) = false := decide_eq_false hE
          rw [hd] at hqe
          obtain ⟨eu, ek, ev⟩ := e
          simp only [E0] at hqe c0 c1 c2
          simp only at HO
          cases eu with
          | false =>
            have hok : okAt l j = false := by rw [HO.out]; exact hd
            have HF2 := hid (fun q => HF.out false q hok)
            clear HF HO hok hd hx hee hbl HB hE
            go_wp2_with fail
            go_quiet (fail)
            go_wp2_with fail
            go_roundw
            case rel => exact ⟨j + 1, by omega, by simp, HF2.out _⟩
            case measure => simp only [iof]; omega
          | true =>
            simp only [if_true] at HO
            by_cases hj0 : j = 0
            · subst hj0
              have hok : okAt l 0 = true := HO.out
              simp only [Nat.zero_mul, Nat.add_zero] at c0 c1 c2
              have HF2 := hid (fun q => HF.out true q hok)
              clear HF HO hok hd hx hee hbl HB hE
              go_wp2_with fail
              go_quiet (fail)
              go_wp2_with fail
              go_roundw
              case rel => exact ⟨1, by omega, by simp, HF2.out _⟩
              case measure => simp only [iof]; omega
            · obtain ⟨m, rfl⟩ : ∃ m, j = m + 1 := ⟨j - 1, by omega⟩
              have hml : m < l.length := by omega
              have hy := List.getElem?_eq_getElem hml
              obtain ⟨y, hye⟩ : ∃ y, y = l[m] := ⟨_, rfl⟩
              rw [← hye] at hy
              obtain ⟨b', o', hbo, hb', d0, d1, d2⟩ := (HR.out.2.below HB.out.2) m y hy
              injection hbo with hbo
              injection hbo with hb1 hb2
              subst hb1 hb2
              simp only at HO
              rw [hy] at HO
              obtain ⟨yu, yk, yv⟩ := y
              simp only at HO d0 d1 d2
              have hgt0 : ¬ ((m : Int) + 1 = 0) := by omega
              have hgt1 : (((m : Int) + 1) == 0) = false := by simpa using hgt0
              have r1 : IntKind.i64.wrap (m : Int) = (m : Int) := by rw [IntKind.wrap_i64]; omega
              have r3 : (m : Int) < (n : Int) := by omega
              clear hye hml hb' hj0
              cases yu with
              | false =>
                have hok : okAt l (m + 1) = false := by rw [HO.out]; rfl
                have HF2 := hid (fun q => HF.out false q hok)
                clear HF HO hok hd hx hee hbl HB hE hy
                go_wp2_with fail
                go_quiet (fail)
                go_wp2_with fail
                go_roundw
                case rel => exact ⟨m + 1 + 1, by omega, by simp, HF2.out _⟩
                case measure => simp only [iof]; omega
              | true =>
                have hbl2 : Op.bytesLess yk.toList ek.toList = blt yk ek := rfl
                simp only [Bool.true_and] at HO
                have HF2 := hid (fun q => HF.out _ q HO.out)
                generalize blt yk ek = z at *
                clear HF HO hd hx hee hbl HB hE hy
                go_wp2_with fail
                go_quiet (fail)
                go_wp2_with fail
                go_roundw
                case rel => exact ⟨m + 1 + 1, by omega, by simp, HF2.out _⟩
                case measure => simp only [iof]; omega
    · have hki : ¬ (j : Int) < (p : Int) := by omega
      obtain rfl : j = p := by omega
      by_cases hp0 : j = 0
      · subst hp0
        have cr := right_at (w := wr) (a := none) (l := []) (n := 0) (c := 0) (fun i e h => by simp at h) rfl (by decide)
        have hr0 : Rgt [] = true := rfl
        rw [hr0] at cr
        clear hr0
        go_wp2_with fail
        with_reducible refine Calls.mono cr ?_
        rintro e w5 ⟨rfl, hb5⟩
        have ca := HAW.out w5
        have HB5 := hid (HB.out.2.trans (hb5.mono HB.out.2.size))
        clear cr hb5 HB HAW
        go_wp2_with fail
        with_reducible refine Calls.mono ca ?_
        rintro e w6 ⟨rfl, hb6⟩
        have HB6 := hid (HB5.out.trans (hb6.mono HB5.out.size))
        clear ca hb6 HB5
        go_wp2_with fail
        go_ret
        exact ⟨rfl, HB6.out⟩
      · have hj1 : 1 ≤ j := by omega
        have hne0 : ¬ (j : Int) = 0 := by omega
        obtain ⟨wa, hwa⟩ : ∃ wa, wa = wr := ⟨_, rfl⟩
        subst hwa
        have cb := begun_at wa 30 3 j (by decide) hj1 (by omega) (by omega)
        clear hp0
        unfold ptr at cb
        go_wp2_with fail
        refine cb.mono ?_
        rintro e w1 ⟨x, t, V1, rfl, h1⟩
        have hjn : j ≤ l.length := by rw [HR.out.1]; exact hp1
        have htl : (l.take j).length = j := by simp; omega
        have HW1 := hid (And.intro h1 (And.intro htl hjn))
        have HST : Hid (Below wa.heap.size wa w1 ∧ HasT wa w1 x 1 (lay V1 3 (mix (List.replicate j E0) (l.take j) 0)) [tb t x 3 j]) := ⟨h1.h.bel, by
          have e1 : lay V1 3 (seg V1 3 j) = V1 := lay_seg h1.hbv
          rw [h1.sg] at e1
          have e2 : tbl j [] = List.replicate j E0 := by simp [tbl]
          rw [e2] at e1
          rw [mix_zero, e1]
          exact h1.h⟩
        have hvl := h1.vl
        have hbv := h1.hbv
        clear cb h1
        unfold ptr at *
        go_wp2_with fail
        go_loopw [18] (fun i u => ∃ k : Nat, k ≤ j ∧ i = .int .i64 (k : Int) ∧ Hid (HasT wa u x 1 (lay V1 3 (mix (List.replicate j E0) (l.take j) k)) [tb t x 3 j])) (fun i _ => j - (iof i).toNat)
        case atStart => exact ⟨0, Nat.zero_le _, by simp, HST.out.2⟩
        case round =>
          clear HST
          obtain ⟨k, hk, rfl, hrel⟩ := hrel
          by_cases hlt2 : k < j
          · have hki2 : (k : Int) < (j : Int) := by omega
            have hkn : (k : Int) < (n : Int) := by omega
            have hkl : k < l.length := by omega
            have hx := List.getElem?_eq_getElem hkl
            obtain ⟨e, hee⟩ : ∃ e, e = l[k] := ⟨_, rfl⟩
            rw [← hee] at hx
            have h3 := hrel.out
            obtain ⟨b, o, rfl, hbl, c0, c1, c2⟩ := (HR.out.2.below (HB.out.2.trans (h3.bel.mono HB.out.2.size))) k e hx
            have hxt : (l.take j)[k]? = some e := by rw [List.getElem?_take, if_pos hlt2]; exact hx
            have hll : (lay V1 3 (mix (List.replicate j E0) (l.take j) k)).length = V1.length := lay_len (by rw [mix_len (by simp) HW1.out.2.1 hk]; exact hbv)
            have cw := h3.write (j := 3 + k) (by rw [hll]; omega) e
            rw [lay_set (by omega) (by rw [mix_len (by simp) HW1.out.2.1 hk]; exact hlt2), mix_set (by simp) HW1.out.2.1 hlt2 hxt, show ((3 + k : Nat) : Int) = 3 + (k : Int) by omega] at cw
            have rw1 : IntKind.i64.wrap (3 + (k : Int)) = 3 + (k : Int) := by rw [IntKind.wrap_i64]; omega
            obtain ⟨eu, ek, ev⟩ := e
            simp only at c0 c1 c2
            clear h3 hrel hx hee hbl hxt hll hkl
            unfold ptr ag at *
            go_wp2_with fail
            with_reducible refine Calls.mono cw ?_
            rintro e w5 ⟨rfl, h5⟩
            have H5 := hid h5
            clear cw h5
            go_wp2_with fail
            go_roundw
            case rel => exact ⟨k + 1, by omega, by simp, H5.out⟩
            case measure => simp only [iof]; omega
          · have hki2 : ¬ (k : Int) < (j : Int) := by omega
            obtain rfl : k = j := by omega
            have h3 := hrel.out
            rw [mix_all (by simp) HW1.out.2.1] at h3
            clear hrel
            obtain ⟨V2, hV2⟩ : ∃ V2, V2 = lay V1 3 (l.take k) := ⟨_, rfl⟩
            have hvl2 : V2.length = V1.length := by rw [hV2]; exact lay_len (by rw [htl]; exact hbv)
            have hsg : seg V2 3 k = l.take k := by rw [hV2]; exact seg_lay (by omega) htl
            have hbv2 : 3 + k ≤ V2.length := by omega
            rw [← hV2] at h3
            clear hV2
            have hzr : Rgt (l.take k) = z := by rw [upR_take hjn]; exact HB.out.1.symm
            cases z with
            | true =>
              have cx := list_at h3 (List.mem_cons_self ..) hj1 hbv2 (by rw [hsg]; exact hzr)
              clear h3
              unfold ptr at *
              go_wp2_with fail
              with_reducible refine Calls.mono cx ?_
              rintro e w6 ⟨q, _, rfl, h6⟩
              have cx := next_at h6 (List.mem_cons_of_mem _ (List.mem_cons_self ..)) hj1 hbv2 (by rw [hsg]; exact hzr) s0
              obtain ⟨⟨nu, nk, nv⟩, hne⟩ : ∃ e, e = (nextOf (seg V2 3 k) s0).getD E0 := ⟨_, rfl⟩
              rw [← hne] at cx
              generalize (nextOf (seg V2 3 k) s0).isSome = nb at *
              clear h6 hne
              unfold ptr ag at *
              go_wp2_with fail
              with_reducible refine Calls.mono cx ?_
              rintro e w7 ⟨rfl, h7⟩
              have h8 := h7.box #[.bool nu, .string nk, .string nv] 27
              clear h7

              have hb8 := hid h8.bel
              have cri := right_at (c := cap) (RdE.take k (HR.out.2.below (HB.out.2.trans (h8.bel.mono HB.out.2.size)))) HW1.out.2.1 (by omega)
              rw [hzr] at cri
              have HT8 := hid h8
              clear cx h8
              go_wp2_with fail
              with_reducible refine Calls.mono cri ?_
              rintro e w9 ⟨rfl, hb9⟩
              have h9 := HT8.out.below hb9
              have ca := h9.abort
              clear cri hb9 HT8 h9 hb8
              unfold ptr at *
              go_wp2_with fail
              with_reducible refine Calls.mono ca ?_
              rintro e w10 ⟨rfl, h10⟩
              have cro := remove_err (tread_over (t := t) (base := 3) (n := k) h10 (by simp) hj1 (by omega) (by decide)) (by decide) (s1 97)
              clear ca h10
              unfold ptr at *
              go_wp2_with fail
              with_reducible refine Calls.mono cro ?_
              rintro e w11 ⟨rfl, h11⟩
              have caw := HAW.out w11
              have HB11 := hid (HB.out.2.trans (h11.bel.mono HB.out.2.size))
              clear cro h11
              go_wp2_with fail
              with_reducible refine Calls.mono caw ?_
              rintro e w12 ⟨rfl, hb12⟩
              have HB12 := hid (HB11.out.trans (hb12.mono HB11.out.size))
              clear caw hb12 HB11
              go_wp2_with fail
              go_ret
              exact ⟨rfl, HB12.out⟩
            | false =>
              have cx := list_err (p := some ⟨t, 0, none⟩) (Q := fun w' => HasT wa w' x 1 V2 [tb t x 3 k]) ((tread_at h3 (List.mem_cons_self ..) hj1 hbv2).mono (fun r w' ⟨q, _, e1, h'⟩ => ⟨by rw [e1, hsg, hzr]; rfl, h'.less (fun y hy => List.mem_cons_of_mem _ hy)⟩)) (by decide)
              clear h3
              unfold ptr at *
              go_wp2_with fail
              with_reducible refine Calls.mono cx ?_
              rintro e w6 ⟨rfl, h6⟩
              have cx := next_bad h6 (List.mem_cons_self ..) hj1 hbv2 (by rw [hsg]; exact hzr) s0
              clear h6
              unfold ptr ag at *
              simp only [E0] at cx
              go_wp2_with fail
              with_reducible refine Calls.mono cx ?_
              rintro e w7 ⟨rfl, h7⟩
              have h8 := h7.box zs 27
              clear h7

              have hb8 := hid h8.bel
              have cri := right_at (c := cap) (RdE.take k (HR.out.2.below (HB.out.2.trans (h8.bel.mono HB.out.2.size)))) HW1.out.2.1 (by omega)
              rw [hzr] at cri
              have HT8 := hid h8
              clear cx h8
              go_wp2_with fail
              with_reducible refine Calls.mono cri ?_
              rintro e w9 ⟨rfl, hb9⟩
              have h9 := HT8.out.below hb9
              have ca := h9.abort
              clear cri hb9 HT8 h9 hb8
              unfold ptr at *
              go_wp2_with fail
              with_reducible refine Calls.mono ca ?_
              rintro e w10 ⟨rfl, h10⟩
              have cro := remove_err (tread_over (t := t) (base := 3) (n := k) h10 (by simp) hj1 (by omega) (by decide)) (by decide) (s1 97)
              clear ca h10
              unfold ptr at *
              go_wp2_with fail
              with_reducible refine Calls.mono cro ?_
              rintro e w11 ⟨rfl, h11⟩
              have caw := HAW.out w11
              have HB11 := hid (HB.out.2.trans (h11.bel.mono HB.out.2.size))
              clear cro h11
              go_wp2_with fail
              with_reducible refine Calls.mono caw ?_
              rintro e w12 ⟨rfl, hb12⟩
              have HB12 := hid (HB11.out.trans (hb12.mono HB11.out.size))
              clear caw hb12 HB11
              go_wp2_with fail
              go_ret
              exact ⟨rfl, HB12.out⟩
end Go.Proofs.Ytlbjalodjcajfaa
