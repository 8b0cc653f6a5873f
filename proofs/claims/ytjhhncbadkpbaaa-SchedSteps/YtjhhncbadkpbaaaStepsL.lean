/-
  SchedSteps' walk.
-/
import Derived.Test.YtjhhncbadkpbaaaStepsS
import Derived.Test.YtjhhncbadkpbaaaAwk0
import Derived.Deep.CutBlock
namespace Go.Proofs.Ytjhhncbadkpbaaa
open Go.RowKit
theorem eqlS_none (g : Nat) (w : World) : (binOp .eql 22 (.pointer (some ⟨g, 0, none⟩)) (.pointer none)).run Try.prog w = .ok (.bool false) w := by
  have h : ∀ d : Nat, (Op.equalIn (d + 1) 22 (.pointer (some ⟨g, 0, none⟩)) (.pointer none)).run Try.prog w = .ok false w := fun d => by
    simp [Op.equalIn, run_underlying pointS]
  simp only [binOp]
  simp [Op.equal, Op.maxDepth, h]
set_option maxRecDepth 20000 in
set_option maxHeartbeats 8000000 in
theorem steps_at (a0 : Option Addr) (n0 c0 : Nat) (ps : List PV) (a1 : Option Addr) (n1 c1 : Nat) (zs : List Int) (w : World) (hl0 : ps.length = n0) (hr0 : RdPs w a0 ps) (hn0 : n0 ≤ c0) (hc0 : c0 ≤ 9223372036854775807) (hl1 : zs.length = n1) (hr1 : RdK .u64 w a1 zs) (hn1 : n1 ≤ 9223372036854775807) (hw1 : ∀ z ∈ zs, (Lit.int .u64 z).wf = true) :
    Calls Try.prog 6 #[.slice a0 n0 c0, .slice a1 n1 c1] w fun r w' => r = .returned (.bool true) ∧ Below w.heap.size w w' := by
  have cN := new_sit w w.heap.size (Nat.le_refl _)
  obtain ⟨s, hs⟩ : ∃ s, s = w.heap.size + 2 := ⟨_, rfl⟩
  obtain ⟨tb, htb⟩ : ∃ tb, tb = w.heap.size := ⟨_, rfl⟩
  obtain ⟨bb, hbb⟩ : ∃ bb, bb = w.heap.size + 1 := ⟨_, rfl⟩
  have cN' : Calls Try.prog 8 #[] ((w.alloc (.cells #[.slice none 0 0] 25)).alloc (.cells #[.bool false] 4)) fun r w' => r = .returned (ptr s) ∧ Sit w' w.heap.size s SS0 tb bb (.slice none 0 0) [] false [] ∧ Below w.heap.size w w' := by
    rw [hs, htb, hbb]; exact cN
  have Htb : Hid (tb = w.heap.size) := htb
  have Hbb : Hid (bb = w.heap.size + 1) := hbb
  obtain ⟨B, hB⟩ : ∃ B, B = w.heap.size := ⟨_, rfl⟩
  have HB : Hid (B = w.heap.size) := hB
  rw [← hB] at cN'
  obtain ⟨m, hm⟩ : ∃ m, m = min n0 20 := ⟨_, rfl⟩
  have hm20 : m ≤ 20 := by omega
  have hmn : m ≤ n0 := by omega
  have HM : Hid (m = min n0 20) := hm
  have hmz : min (n0 : Int) 20 = (m : Int) := by omega
  have HP : Hid (∀ u : World, Below B w u → ∀ k (hk : k < m), ∃ b o, a0 = some ⟨b, o, none⟩ ∧ ∃ la ln lc, u.cell? ⟨b, o + k, none⟩ = some (.slice la ln lc) ∧ ∃ xs, xs.length = ln ∧ DoRow u B la xs) := fun u hu k hk => by
    obtain ⟨b, o, rfl, hc⟩ := hr0 (by omega)
    obtain ⟨h1, h2, h3⟩ := hc k (by omega)
    refine ⟨b, o, rfl, (ps[k]'(by omega)).la, (ps[k]'(by omega)).ln, (ps[k]'(by omega)).lc, ?_, (ps[k]'(by omega)).xs, h2, ?_⟩
    · rw [hu.cell (p := ⟨b, o + k, none⟩) (by rw [hB]; exact block_lt_of_cell h1)]; exact h1
    · intro h0
      obtain ⟨b', o', e1, hc', hlt⟩ := h3.row h0
      have hb' : b' < B := by rw [hB]; exact block_lt_of_cell (hc' 0 h0).1
      refine ⟨b', o', e1, fun j hj => ?_, .inl hb'⟩
      rw [hu.cell (p := ⟨b', _, none⟩) hb', hu.cell (p := ⟨b', _, none⟩) hb', hu.cell (p := ⟨b', _, none⟩) hb']
      exact hc' j hj
  have HZ : Hid (∀ u : World, Below B w u → ∀ k (hk : k < n1), ∃ b o p, a1 = some ⟨b, o, none⟩ ∧ u.cell? ⟨b, o + k, none⟩ = some (.int .u64 ((p : Nat) : Int)) ∧ p < 18446744073709551616) := fun u hu k hk => by
    obtain ⟨b, o, rfl, hc⟩ := hr1 (by omega)
    have h1 := hc k (by omega)
    have hwf := hw1 _ (List.getElem_mem (show k < zs.length by omega))
    have hb1 : 0 ≤ zs[k]'(by omega) ∧ zs[k]'(by omega) < 18446744073709551616 := by
      have := bounds_u64 hwf
      omega
    refine ⟨b, o, (zs[k]'(by omega)).toNat, rfl, ?_, by omega⟩
    rw [hu.cell (p := ⟨b, o + k, none⟩) (by rw [hB]; exact block_lt_of_cell h1), h1]
    congr 2
    omega
  have hn1' : (n1 : Int) ≤ 9223372036854775807 := by omega
  have hn0' : (n0 : Int) ≤ 9223372036854775807 := by omega
  have hmc : m ≤ c0 := by omega
  have hen := eqlS_none s
  clear cN hs htb hbb hB hr0 hr1 hw1 hl0 hl1 hm
  unfold ptr at *
  go_enter Try.func6, Try.ntmps6
  go_wp2_with fail
  refine Calls.mono cN' ?_
  rintro q w1 ⟨rfl, h1, b1⟩
  rw [← Hbb.out, ← Htb.out]
  have H1 : Hid (StSit w1 B s tb bb 0 SS0) := StSit.start h1
  have B1 : Hid (Below B w w1) := b1
  clear cN' h1 b1
  go_wp2_with fail
  clear hmz
  go_loopw [34] (fun i u => ∃ k : Nat, k ≤ m ∧ i = .int .i64 (k : Int) ∧ (∃ S, StSit u B s tb bb k S ∧ S.sum = 0) ∧ Below B w u) (fun i _ => m - (intOf i).toNat)
  case atStart => exact ⟨0, by omega, rfl, ⟨SS0, H1.out, rfl⟩, B1.out⟩
  case round =>
    obtain ⟨k, hk, rfl, ⟨S, hS, hS0⟩, hb⟩ := hrel
    have HS : Hid (StSit wr B s tb bb k S) := hS
    have HS0 : Hid (S.sum = 0) := hS0
    have HBr : Hid (Below B w wr) := hb
    by_cases hlt : k < m
    · have hki : (k : Int) < (m : Int) := by omega
      obtain ⟨b, o, rfl, la, ln, lc, x1, xs, hxl, hd⟩ := HP.out wr hb k hlt
      have ca := hS.add (by omega) (lc := lc) hd hxl
      unfold tkC ptr at ca
      clear hS hb hS0 hd
      go_wp2_with fail
      refine Calls.mono ca ?_
      rintro q wb ⟨rfl, hS2, b2⟩
      have HS2 : Hid (∃ S', StSit wb B s tb bb (k + 1) S' ∧ S'.sum = S.sum) := hS2
      have HB2 : Hid (Below B w wb) := HBr.out.trans b2
      clear ca hS2 b2
      go_wp2_with fail
      go_roundw
      case rel => exact ⟨k + 1, by omega, by go_num, by obtain ⟨S', h1, h2⟩ := HS2.out; exact ⟨S', h1, h2.trans HS0.out⟩, HB2.out⟩
      case measure => simp [intOf]; omega
    · have hkm : k = m := by omega
      subst k
      clear hS hb hS0 H1 B1 HP
      go_wp2_with fail
      go_loopw [11, 12] (fun st i u => ∃ k : Nat, k ≤ 200 ∧ k ≤ n1 ∧ i = .int .i64 (k : Int) ∧ (∃ S, StSit u B s tb bb m S ∧ S.sum ≤ k ∧ st = .int .i64 (S.sum : Int)) ∧ Below B w u) (fun _ i _ => 200 - (intOf i).toNat)
      case atStart => exact ⟨0, by omega, by omega, rfl, ⟨S, HS.out, by rw [HS0.out]; exact Nat.le_refl _, by rw [HS0.out]; rfl⟩, HBr.out⟩
      case round =>
        obtain ⟨k, hk200, hkn, rfl, ⟨S2, hS, hsum, rfl⟩, hb⟩ := hrel
        obtain ⟨wa, hwa⟩ : ∃ wa, wa = wr := ⟨_, rfl⟩
        subst hwa
        have HSa : Hid (StSit wa B s tb bb m S2) := hS
        have HBa : Hid (Below B w wa) := hb
        by_cases hgo : k < n1 ∧ k < 200
        · obtain ⟨hg1, hg2⟩ := hgo
          have hi1 : (k : Int) < (n1 : Int) := by omega
          have hi2 : (k : Int) < 200 := by omega
          have hLl := hS.Ll
          have hgm := hS.g
          have cR := ready_at hS.is (by omega) (by omega)
          clear hS hb hgm
          unfold ptr at cR
          go_wp2_with fail
          refine Calls.mono cR ?_
          rintro q wb ⟨v13, rfl, o13, b13⟩
          have HSb : Hid (StSit wb B s tb bb m S2) := HSa.out.below b13
          have HBb : Hid (Below B w wb) := HBa.out.trans (b13.mono HSa.out.is.hB)
          obtain ⟨b, o, p, rfl, xp, hp⟩ := HZ.out wb HBb.out k hg1
          have HO : Hid (wb.ownsRow wa.heap.size 3 1 v13 S2.L.length (ics (S2.L.map (· + 1)))) := o13
          obtain ⟨av, cv, hv13⟩ := ownsRow_slice o13
          subst hv13
          clear cR b13 o13
          obtain ⟨P, hP⟩ : ∃ P : Int, P = (p : Int) := ⟨_, rfl⟩
          rw [← hP] at xp
          have HPp : Hid (P = (p : Int)) := hP
          have Hp : Hid (p < 18446744073709551616) := hp
          clear hP hp
          by_cases hL0 : S2.L.length = 0
          · have cP := HSb.out.empty (List.eq_nil_of_length_eq_zero hL0) P
            unfold ptr at cP
            rw [hL0]
            go_wp2_with fail
            refine Calls.mono cP ?_
            rintro q wx ⟨rfl, hwx⟩
            subst wx
            clear cP
            go_wp2_with fail
            go_roundw
            case rel => exact ⟨k + 1, by omega, by omega, by go_num, ⟨S2, HSb.out, by omega, rfl⟩, HBb.out⟩
            case measure => simp [intOf]; omega
          · obtain ⟨i, st, hiL, hst, cP⟩ := HSb.out.pick p Hp.out (by omega) (by omega) (by omega)
            rw [← HPp.out] at cP
            obtain ⟨N13, hN13⟩ : ∃ N13, N13 = S2.L.length := ⟨_, rfl⟩
            have HN13 : Hid (N13 = S2.L.length) := hN13
            obtain ⟨K, hK⟩ : ∃ K, K = p % N13 := ⟨_, rfl⟩
            have hKlt : K < N13 := by rw [hK]; exact Nat.mod_lt _ (by omega)
            have htm : P.tmod (N13 : Int) = (K : Int) := by
              rw [HPp.out, Int.tmod_eq_emod_of_nonneg (by omega), hK]
              omega
            have hLK : Hid (S2.L[K]? = some i) := by rw [hK, hN13]; exact hiL
            have hiM : i ∈ S2.L := List.mem_of_getElem? hiL
            rw [← hN13] at HO ⊢
            have hNp : 0 < N13 := by omega
            have hNd : decide (0 < N13) = true := by simpa using hNp
            have hNm : (N13 : Int) < 60 := by omega
            have hKi : (K : Int) < (N13 : Int) := by omega
            have hi60 : i < 60 := by have := HSb.out.is.ll i hiM; rw [HSb.out.g] at this; omega
            have hst0 : (0 : Int) ≤ (st : Int) := by omega
            have hst1 : (st : Int) < 200 := by omega
            have Htm : Hid (P.tmod (N13 : Int) = (K : Int)) := htm
            clear hiL hN13 hK htm hL0
            unfold ptr at cP
            go_wp2_with fail
            refine Calls.mono cP ?_
            rintro q wc ⟨rfl, hS3, bc, hk3, cSt⟩
            have HS3 : Hid (∃ S', StSit wc B s tb bb m S' ∧ S'.sum = S2.sum + 1) := hS3
            have HBc : Hid (Below B w wc) := HBb.out.trans bc
            have o3 : wc.ownsRow wa.heap.size 3 1 (.slice av N13 cv) N13 (ics (S2.L.map (· + 1))) := ownsRow_kt HO.out (p := fun t => t = 3) (fun k cs t x hp => by subst hp; exact hk3 k cs x) rfl
            have HC : Hid (∀ j (hj : j < S2.L.length), ∃ g, av = some ⟨g, 0, none⟩ ∧ wc.cell? ⟨g, j, none⟩ = some (.int .i64 ((S2.L[j] + 1 : Nat) : Int))) := fun j hj => by
              obtain ⟨g, cap, e1, c1⟩ := ownsRow_cell o3 j (by rw [HN13.out]; exact hj)
              injection e1 with e1
              refine ⟨g, e1, ?_⟩
              rw [c1]
              simp [ics, hj]
            have xp3 : wc.cell? ⟨b, o + k, none⟩ = some (.int .u64 P) := by
              obtain ⟨b', o', p', e1, x', _⟩ := HZ.out wc HBc.out k hg1
              obtain ⟨b'', o'', p'', e2, x'', _⟩ := HZ.out wb HBb.out k hg1
              injection e1 with e1
              injection e1 with e1 e1'
              subst e1 e1'
              have h3 : b < B := by
                have hz := HZ.out w (Below.refl _ _) k hg1
                obtain ⟨b3, o3', p3, e3, x3, _⟩ := hz
                injection e3 with e3
                injection e3 with e3 e3'
                subst e3 e3'
                rw [HB.out]
                exact block_lt_of_cell x3
              rw [bc.cell (p := ⟨b, o + k, none⟩) h3]
              exact xp
            obtain ⟨Z, hZ⟩ : ∃ Z : Int, Z = ((i + 1 : Nat) : Int) := ⟨_, rfl⟩
            rw [← hZ] at cSt ⊢
            have HZi : Hid (Z = ((i + 1 : Nat) : Int)) := hZ
            clear cP hS3 bc hk3 o3 xp hZ
            have hsum2 : (S2.sum : Int) < 1000 := by omega
            go_wp2_with fail
            go_loop [17, 86] (fun inn c => ∃ j : Nat, j ≤ N13 ∧ c = .int .i64 (j : Int) ∧ inn = .bool ((S2.L.take j).contains i)) (fun _ c => N13 - (intOf c).toNat)
            case atStart => exact ⟨0, Nat.zero_le _, rfl, by simp⟩
            case round =>
              obtain ⟨j, hj, rfl, rfl⟩ := hrel
              by_cases hjl : j < N13
              · have hjL : j < S2.L.length := by rw [← HN13.out]; exact hjl
                have hji : (j : Int) < (N13 : Int) := by omega
                obtain ⟨g, rfl, xj⟩ := HC.out j hjL
                have hsc := contains_succ S2.L j i hjL
                obtain ⟨y, hy⟩ : ∃ y : Int, y = ((S2.L[j] + 1 : Nat) : Int) := ⟨_, rfl⟩
                rw [← hy] at xj
                cases hcc : (S2.L.take j).contains i with
                | true =>
                  rw [hcc] at hsc
                  have HSC : Hid ((S2.L.take (j + 1)).contains i = true) := by rw [hsc]; rfl
                  clear hsc hcc hy
                  go_wp2_with fail
                  go_round
                  case rel => exact ⟨j + 1, by omega, by go_num, by rw [HSC.out]⟩
                  case measure => simp [intOf]; omega
                | false =>
                  rw [hcc] at hsc
                  by_cases heq : S2.L[j] = i
                  · have HSC : Hid ((S2.L.take (j + 1)).contains i = true) := by
                      show (S2.L.take (j + 1)).contains i = true
                      rw [hsc, heq]; simp
                    have hyz : y = Z := by rw [hy, HZi.out, heq]
                    clear hsc hcc hy heq
                    rw [hyz] at xj
                    go_wp2_with fail
                    go_round
                    case rel => exact ⟨j + 1, by omega, by go_num, by rw [HSC.out]⟩
                    case measure => simp [intOf]; omega
                  · have HSC : Hid ((S2.L.take (j + 1)).contains i = false) := by
                      show (S2.L.take (j + 1)).contains i = false
                      rw [hsc]; simpa using heq
                    have hyz : ¬ y = Z := by rw [hy, HZi.out]; omega
                    clear hsc hcc hy heq
                    go_wp2_with fail
                    go_round
                    case rel => exact ⟨j + 1, by omega, by go_num, by rw [HSC.out]; simp [hyz]⟩
                    case measure => simp [intOf]; omega
              · have hjN : j = N13 := by omega
                subst j
                have hall : (S2.L.take N13).contains i = true := by
                  rw [HN13.out, List.take_length]
                  simpa using hiM
                rw [hall]
                obtain ⟨g, rfl, xK⟩ := HC.out K (by rw [← HN13.out]; exact hKlt)
                have hLKi : S2.L[K]'(by rw [← HN13.out]; exact hKlt) = i := (List.getElem?_eq_some_iff.1 hLK.out).2
                rw [hLKi, ← HZi.out] at xK
                have htm := Htm.out
                clear hall hLKi
                go_wp2_with fail
                refine Calls.mono cSt ?_
                rintro q wx ⟨rfl, hwx⟩
                subst wx
                clear cSt
                go_wp2_with fail
                go_roundw
                case rel => exact ⟨k + 1, by omega, by omega, by go_num, by obtain ⟨S', h1, h2⟩ := HS3.out; exact ⟨S', h1, by omega, by rw [h2]; go_num⟩, HBc.out⟩
                case measure => simp [intOf]; omega
        · rcases (show (k < n1 ∧ 200 ≤ k) ∨ n1 ≤ k by omega) with ⟨hx1, hx2⟩ | hx1
          · have hxa : (k : Int) < (n1 : Int) := by omega
            have hxb : ¬ ((k : Int) < 200) := by omega
            have hS3 := HSa.out
            have hsumle : S2.sum ≤ 200 := by omega
            clear hS hb
            go_wp2_with fail
            go_loopw [20, 123] (fun sm i u => ∃ j : Nat, j ≤ m ∧ i = .int .i64 (j : Int) ∧ sm = .int .i64 ((((S2.E.map (·.n)).take j).sum : Nat) : Int) ∧ StSit u B s tb bb m S2 ∧ Below B w u) (fun _ i _ => m - (intOf i).toNat)
            case atStart => exact ⟨0, Nat.zero_le _, rfl, rfl, HSa.out, HBa.out⟩
            case round =>
              obtain ⟨j, hj, rfl, rfl, hSj, hbj⟩ := hrel
              obtain ⟨wb, hwb⟩ : ∃ wb, wb = wr := ⟨_, rfl⟩
              subst hwb
              have HSb : Hid (StSit wb B s tb bb m S2) := hSj
              have HBb : Hid (Below B w wb) := hbj
              have hEl : S2.E.length = m := by rw [hSj.is.len, hSj.g]
              have hLl := hSj.Ll
              have hgm := hSj.g
              by_cases hjm : j < m
              · have hji : (j : Int) < (m : Int) := by omega
                have hjE : j < S2.E.length := by omega
                have cS : Calls Try.prog 22 #[ptr s, .int .i64 ((j : Int) + 1)] wb fun r w' => r = .returned (.int .i64 ((S2.E[j]'hjE).n : Int)) ∧ w' = wb := by
                  have := steps_in hSj.is j _ (List.getElem?_eq_getElem hjE) (by omega)
                  rw [show ((j + 1 : Nat) : Int) = (j : Int) + 1 by omega] at this
                  exact this
                have hts : ((S2.E.map (·.n)).take (j + 1)).sum = ((S2.E.map (·.n)).take j).sum + (S2.E[j]'hjE).n := by
                  rw [List.take_succ_eq_append_getElem (by simpa using hjE), List.sum_append]
                  simp
                have hle : ((S2.E.map (·.n)).take (j + 1)).sum ≤ S2.sum := by
                  unfold SS.sum
                  conv => rhs; rw [← List.take_append_drop (j + 1) (S2.E.map (·.n)), List.sum_append]
                  exact Nat.le_add_right _ _
                have cR := ready_at hSj.is (by omega) (by omega)
                have HStat : Hid (∀ q (hq : q < S2.L.length) (u : World), StSit u B s tb bb m S2 → S2.L[q] = j → Calls Try.prog 21 #[ptr s, .int .i64 ((j : Int) + 1)] u fun r w' => r = .returned (.int .u8 1) ∧ w' = u) := fun q hq u hu he => by
                  obtain ⟨e, h1, h2⟩ := hu.good.ln _ (List.getElem_mem hq)
                  rw [he] at h1
                  have := status_in hu.is j e h1 (by rw [hu.g]; omega)
                  rw [show ((j + 1 : Nat) : Int) = (j : Int) + 1 by omega, h2] at this
                  exact this
                generalize hen : (S2.E[j]'hjE).n = en at cS hts
                generalize htj : ((S2.E.map (·.n)).take j).sum = T at hts ⊢
                have HTs : Hid (((S2.E.map (·.n)).take (j + 1)).sum = T + en) := hts
                have hb1 : (T : Int) ≤ 1000 := by omega
                have hb2 : (en : Int) ≤ 1000 := by omega
                clear hSj hbj hts hle hen htj hgm hEl
                unfold ptr at cS cR HStat
                go_wp2_with fail
                refine Calls.mono cS ?_
                rintro q wx ⟨rfl, hwx⟩
                subst wx
                clear cS
                go_wp2_with fail
                refine Calls.mono cR ?_
                rintro q wc ⟨v13, rfl, o13, b13⟩
                have HSc : Hid (StSit wc B s tb bb m S2) := HSb.out.below b13
                have HBc : Hid (Below B w wc) := HBb.out.trans (b13.mono HSb.out.is.hB)
                obtain ⟨av, cv, hv13⟩ := ownsRow_slice o13
                obtain ⟨N13, hN13⟩ : ∃ N13, N13 = S2.L.length := ⟨_, rfl⟩
                have HN13 : Hid (N13 = S2.L.length) := hN13
                rw [← hN13] at hv13
                subst hv13
                have HC : Hid (∀ q (hq : q < S2.L.length), ∃ g, av = some ⟨g, 0, none⟩ ∧ wc.cell? ⟨g, q, none⟩ = some (.int .i64 ((S2.L[q] : Int) + 1))) := fun q hq => by
                  obtain ⟨g, cap, e1, c1⟩ := ownsRow_cell o13 q hq
                  injection e1 with e1
                  refine ⟨g, e1, ?_⟩
                  rw [c1]
                  simp [ics, hq]
                have hN20 : N13 ≤ 20 := by omega
                clear cR b13 o13 hN13 hLl
                go_wp2_with fail
                go_loop [135] (fun c => ∃ q : Nat, q ≤ N13 ∧ c = .int .i64 (q : Int)) (fun c => N13 - (intOf c).toNat)
                case atStart => exact ⟨0, Nat.zero_le _, rfl⟩
                case round =>
                  obtain ⟨q, hq, rfl⟩ := hrel
                  by_cases hql : q < N13
                  · have hqL : q < S2.L.length := by rw [← HN13.out]; exact hql
                    have hqi : (q : Int) < (N13 : Int) := by omega
                    obtain ⟨g, rfl, xq⟩ := HC.out q hqL
                    by_cases heq : S2.L[q] = j
                    · have cT := HStat.out q hqL wc HSc.out heq
                      rw [heq] at xq
                      clear heq
                      go_wp2_with fail
                      refine Calls.mono cT ?_
                      rintro r wx ⟨rfl, hwx⟩
                      subst wx
                      clear cT
                      go_wp2_with fail
                      go_round
                      case rel => exact ⟨q + 1, by omega, by go_num⟩
                      case measure => simp [intOf]; omega
                    · obtain ⟨y, hy⟩ : ∃ y : Int, y = (S2.L[q] : Int) + 1 := ⟨_, rfl⟩
                      rw [← hy] at xq
                      have hyj : ¬ y = (j : Int) + 1 := by omega
                      clear heq hy
                      go_wp2_with fail
                      go_round
                      case rel => exact ⟨q + 1, by omega, by go_num⟩
                      case measure => simp [intOf]; omega
                  · have hqN : q = N13 := by omega
                    subst q
                    go_wp2_with fail
                    go_roundw
                    case rel => exact ⟨j + 1, by omega, by go_num, by rw [HTs.out]; go_num, HSc.out, HBc.out⟩
                    case measure => simp [intOf]; omega
              · have hjm' : j = m := by omega
                subst j
                have hall : ((S2.E.map (·.n)).take m).sum = S2.sum := by
                  unfold SS.sum
                  rw [List.take_of_length_le (by simp [hEl])]
                have hroom := room hSj.good hSj.is.len hSj.is.ll
                rw [hgm] at hroom
                have cR := ready_at hSj.is (by omega) (by omega)
                have xb := hSj.bad
                rw [hall]
                clear hSj hbj hall
                unfold ptr at cR
                go_wp2_with fail
                refine Calls.mono cR ?_
                rintro q wc ⟨v13, rfl, o13, b13⟩
                have HSc : Hid (StSit wc B s tb bb m S2) := HSb.out.below b13
                have HBc : Hid (Below B w wc) := HBb.out.trans (b13.mono HSb.out.is.hB)
                obtain ⟨av, cv, hv13⟩ := ownsRow_slice o13
                subst hv13
                have cB := blocked_at HSc.out.is HSc.out.good.lt (by omega)
                clear cR b13 o13
                unfold ptr at cB
                go_wp2_with fail
                refine Calls.mono cB ?_
                rintro q wd ⟨v14, rfl, o14, b14⟩
                have HBd : Hid (Below B w wd) := HBc.out.trans (b14.mono HSc.out.is.hB)
                have HhB : Hid (B ≤ wd.heap.size) := Nat.le_trans HSc.out.is.hB b14.size
                obtain ⟨av4, cv4, hv14⟩ := ownsRow_slice o14
                subst hv14
                have cA := awake_at wd
                have hr1 : (S2.L.length : Int) + (S2.blk.length : Int) ≤ (m : Int) := by omega
                have hr2 : (S2.L.length : Int) ≤ 100 := by omega
                have hr4 : (0 : Int) ≤ (S2.L.length : Int) := by omega
                have hr5 : (0 : Int) ≤ (S2.blk.length : Int) := by omega
                have hr3 : (S2.blk.length : Int) ≤ 100 := by omega
                clear cB b14 o14 hroom hLl
                generalize S2.L.length = q1 at *
                generalize S2.blk.length = q2 at *
                go_wp2_with fail
                refine Calls.mono cA ?_
                rintro q wz ⟨rfl, bz⟩
                have HBz : Hid (Below B w wz) := HBd.out.trans (bz.mono HhB.out)
                clear cA bz
                go_wp2_with fail
                go_ret
                exact ⟨rfl, by rw [← HB.out]; exact HBz.out⟩
          · have hxa : ¬ ((k : Int) < (n1 : Int)) := by omega
            have hS3 := HSa.out
            have hsumle : S2.sum ≤ 200 := by omega
            clear hS hb
            go_wp2_with fail
            go_loopw [20, 123] (fun sm i u => ∃ j : Nat, j ≤ m ∧ i = .int .i64 (j : Int) ∧ sm = .int .i64 ((((S2.E.map (·.n)).take j).sum : Nat) : Int) ∧ StSit u B s tb bb m S2 ∧ Below B w u) (fun _ i _ => m - (intOf i).toNat)
            case atStart => exact ⟨0, Nat.zero_le _, rfl, rfl, HSa.out, HBa.out⟩
            case round =>
              obtain ⟨j, hj, rfl, rfl, hSj, hbj⟩ := hrel
              obtain ⟨wb, hwb⟩ : ∃ wb, wb = wr := ⟨_, rfl⟩
              subst hwb
              have HSb : Hid (StSit wb B s tb bb m S2) := hSj
              have HBb : Hid (Below B w wb) := hbj
              have hEl : S2.E.length = m := by rw [hSj.is.len, hSj.g]
              have hLl := hSj.Ll
              have hgm := hSj.g
              by_cases hjm : j < m
              · have hji : (j : Int) < (m : Int) := by omega
                have hjE : j < S2.E.length := by omega
                have cS : Calls Try.prog 22 #[ptr s, .int .i64 ((j : Int) + 1)] wb fun r w' => r = .returned (.int .i64 ((S2.E[j]'hjE).n : Int)) ∧ w' = wb := by
                  have := steps_in hSj.is j _ (List.getElem?_eq_getElem hjE) (by omega)
                  rw [show ((j + 1 : Nat) : Int) = (j : Int) + 1 by omega] at this
                  exact this
                have hts : ((S2.E.map (·.n)).take (j + 1)).sum = ((S2.E.map (·.n)).take j).sum + (S2.E[j]'hjE).n := by
                  rw [List.take_succ_eq_append_getElem (by simpa using hjE), List.sum_append]
                  simp
                have hle : ((S2.E.map (·.n)).take (j + 1)).sum ≤ S2.sum := by
                  unfold SS.sum
                  conv => rhs; rw [← List.take_append_drop (j + 1) (S2.E.map (·.n)), List.sum_append]
                  exact Nat.le_add_right _ _
                have cR := ready_at hSj.is (by omega) (by omega)
                have HStat : Hid (∀ q (hq : q < S2.L.length) (u : World), StSit u B s tb bb m S2 → S2.L[q] = j → Calls Try.prog 21 #[ptr s, .int .i64 ((j : Int) + 1)] u fun r w' => r = .returned (.int .u8 1) ∧ w' = u) := fun q hq u hu he => by
                  obtain ⟨e, h1, h2⟩ := hu.good.ln _ (List.getElem_mem hq)
                  rw [he] at h1
                  have := status_in hu.is j e h1 (by rw [hu.g]; omega)
                  rw [show ((j + 1 : Nat) : Int) = (j : Int) + 1 by omega, h2] at this
                  exact this
                generalize hen : (S2.E[j]'hjE).n = en at cS hts
                generalize htj : ((S2.E.map (·.n)).take j).sum = T at hts ⊢
                have HTs : Hid (((S2.E.map (·.n)).take (j + 1)).sum = T + en) := hts
                have hb1 : (T : Int) ≤ 1000 := by omega
                have hb2 : (en : Int) ≤ 1000 := by omega
                clear hSj hbj hts hle hen htj hgm hEl
                unfold ptr at cS cR HStat
                go_wp2_with fail
                refine Calls.mono cS ?_
                rintro q wx ⟨rfl, hwx⟩
                subst wx
                clear cS
                go_wp2_with fail
                refine Calls.mono cR ?_
                rintro q wc ⟨v13, rfl, o13, b13⟩
                have HSc : Hid (StSit wc B s tb bb m S2) := HSb.out.below b13
                have HBc : Hid (Below B w wc) := HBb.out.trans (b13.mono HSb.out.is.hB)
                obtain ⟨av, cv, hv13⟩ := ownsRow_slice o13
                obtain ⟨N13, hN13⟩ : ∃ N13, N13 = S2.L.length := ⟨_, rfl⟩
                have HN13 : Hid (N13 = S2.L.length) := hN13
                rw [← hN13] at hv13
                subst hv13
                have HC : Hid (∀ q (hq : q < S2.L.length), ∃ g, av = some ⟨g, 0, none⟩ ∧ wc.cell? ⟨g, q, none⟩ = some (.int .i64 ((S2.L[q] : Int) + 1))) := fun q hq => by
                  obtain ⟨g, cap, e1, c1⟩ := ownsRow_cell o13 q hq
                  injection e1 with e1
                  refine ⟨g, e1, ?_⟩
                  rw [c1]
                  simp [ics, hq]
                have hN20 : N13 ≤ 20 := by omega
                clear cR b13 o13 hN13 hLl
                go_wp2_with fail
                go_loop [135] (fun c => ∃ q : Nat, q ≤ N13 ∧ c = .int .i64 (q : Int)) (fun c => N13 - (intOf c).toNat)
                case atStart => exact ⟨0, Nat.zero_le _, rfl⟩
                case round =>
                  obtain ⟨q, hq, rfl⟩ := hrel
                  by_cases hql : q < N13
                  · have hqL : q < S2.L.length := by rw [← HN13.out]; exact hql
                    have hqi : (q : Int) < (N13 : Int) := by omega
                    obtain ⟨g, rfl, xq⟩ := HC.out q hqL
                    by_cases heq : S2.L[q] = j
                    · have cT := HStat.out q hqL wc HSc.out heq
                      rw [heq] at xq
                      clear heq
                      go_wp2_with fail
                      refine Calls.mono cT ?_
                      rintro r wx ⟨rfl, hwx⟩
                      subst wx
                      clear cT
                      go_wp2_with fail
                      go_round
                      case rel => exact ⟨q + 1, by omega, by go_num⟩
                      case measure => simp [intOf]; omega
                    · obtain ⟨y, hy⟩ : ∃ y : Int, y = (S2.L[q] : Int) + 1 := ⟨_, rfl⟩
                      rw [← hy] at xq
                      have hyj : ¬ y = (j : Int) + 1 := by omega
                      clear heq hy
                      go_wp2_with fail
                      go_round
                      case rel => exact ⟨q + 1, by omega, by go_num⟩
                      case measure => simp [intOf]; omega
                  · have hqN : q = N13 := by omega
                    subst q
                    go_wp2_with fail
                    go_roundw
                    case rel => exact ⟨j + 1, by omega, by go_num, by rw [HTs.out]; go_num, HSc.out, HBc.out⟩
                    case measure => simp [intOf]; omega
              · have hjm' : j = m := by omega
                subst j
                have hall : ((S2.E.map (·.n)).take m).sum = S2.sum := by
                  unfold SS.sum
                  rw [List.take_of_length_le (by simp [hEl])]
                have hroom := room hSj.good hSj.is.len hSj.is.ll
                rw [hgm] at hroom
                have cR := ready_at hSj.is (by omega) (by omega)
                have xb := hSj.bad
                rw [hall]
                clear hSj hbj hall
                unfold ptr at cR
                go_wp2_with fail
                refine Calls.mono cR ?_
                rintro q wc ⟨v13, rfl, o13, b13⟩
                have HSc : Hid (StSit wc B s tb bb m S2) := HSb.out.below b13
                have HBc : Hid (Below B w wc) := HBb.out.trans (b13.mono HSb.out.is.hB)
                obtain ⟨av, cv, hv13⟩ := ownsRow_slice o13
                subst hv13
                have cB := blocked_at HSc.out.is HSc.out.good.lt (by omega)
                clear cR b13 o13
                unfold ptr at cB
                go_wp2_with fail
                refine Calls.mono cB ?_
                rintro q wd ⟨v14, rfl, o14, b14⟩
                have HBd : Hid (Below B w wd) := HBc.out.trans (b14.mono HSc.out.is.hB)
                have HhB : Hid (B ≤ wd.heap.size) := Nat.le_trans HSc.out.is.hB b14.size
                obtain ⟨av4, cv4, hv14⟩ := ownsRow_slice o14
                subst hv14
                have cA := awake_at wd
                have hr1 : (S2.L.length : Int) + (S2.blk.length : Int) ≤ (m : Int) := by omega
                have hr2 : (S2.L.length : Int) ≤ 100 := by omega
                have hr4 : (0 : Int) ≤ (S2.L.length : Int) := by omega
                have hr5 : (0 : Int) ≤ (S2.blk.length : Int) := by omega
                have hr3 : (S2.blk.length : Int) ≤ 100 := by omega
                clear cB b14 o14 hroom hLl
                generalize S2.L.length = q1 at *
                generalize S2.blk.length = q2 at *
                go_wp2_with fail
                refine Calls.mono cA ?_
                rintro q wz ⟨rfl, bz⟩
                have HBz : Hid (Below B w wz) := HBd.out.trans (bz.mono HhB.out)
                clear cA bz
                go_wp2_with fail
                go_ret
                exact ⟨rfl, by rw [← HB.out]; exact HBz.out⟩
end Go.Proofs.Ytjhhncbadkpbaaa
