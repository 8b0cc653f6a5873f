/-
  RecordWhole's walk.
-/
import Derived.Test.YtghcmlkgpedkkaaAwake
import Derived.Test.YtghcmlkgpedkkaaMixP
import Derived.Deep.Cut
import Derived.Deep.CutBlock
import Derived.Deep.RegionHeld3
namespace Go.Proofs.Ytghcmlkgpedkkaa
open Go.RowKit

theorem pick_at (x : Int) (n : Nat) (N : Int) (w : World) (hN : N = (n : Int)) (h0 : 0 < n) (hn : n ≤ 2000000) :
    Calls Try.prog 27 #[.int .i64 x, .int .i64 N] w fun e w' => ∃ p : Nat, p < n ∧ e = .returned (.int .i64 p) ∧ w = w' := by
  subst hN
  have h1 : x.tmod n < n := Int.tmod_lt_of_pos x (by omega)
  have h2 : -(n : Int) < x.tmod n := Int.lt_tmod_of_pos x (by omega)
  obtain ⟨y, hy⟩ : ∃ y, x.tmod n = y := ⟨_, rfl⟩
  rw [hy] at h1 h2
  go_enter Try.func27, Try.ntmps27
  go_wp2
  · go_ret
    exact ⟨(y + n).toNat, by omega, by
      have e : ((y + n).toNat : Int) = y + n := by omega
      rw [e]
      rfl, rfl⟩
  · go_ret
    exact ⟨y.toNat, by omega, by
      have e : (y.toNat : Int) = y := by omega
      rw [e]
      rfl, rfl⟩

/-- numbers, one behind the other -/
def Ints (w : World) (a : Option Addr) (xs : List Int) : Prop := 0 < xs.length → ∃ b o, a = some ⟨b, o, none⟩ ∧ ∀ j (h : j < xs.length), w.cell? ⟨b, o + j, none⟩ = some (.int .i64 xs[j])
theorem PutR.below {w w' : World} {e s : Int} {is : List (Int × List UInt8)} {n : Nat} {r : Ending} (h : PutR w e s is n r w') : Below w.heap.size w w' := by
  rcases h with ⟨_, _, _, _, _, _, _, _, _, b⟩ | ⟨_, _, b⟩
  · exact b
  · exact b

set_option maxRecDepth 100000 in
set_option maxHeartbeats 4000000 in
theorem whole_at (e s e' s' : Int) (a a' : Option Addr) (n c n' c' : Nat) (is is' : List (Int × List UInt8)) (al : Option Addr) (nl cl : Nat) (xs : List Int) (q : Bool) (w : World) (hl : is.length = n) (hl' : is'.length = n')
    (hn : n * 32 ≤ 140737488355328) (hn' : n' * 32 ≤ 140737488355328) (hI : Imgs w a is) (hI' : Imgs w a' is') (hx : xs.length = nl) (hL : Ints w al xs) :
    Calls Try.prog 5 #[.agg #[.int .i64 e, .int .i64 s, .slice a n c], .agg #[.int .i64 e', .int .i64 s', .slice a' n' c'], .slice al nl cl, .bool q] w fun r w' => r = .returned (.bool true) ∧ Below w.heap.size w w' := by
  have x4 := (Box.new w #[.int .i64 e, .int .i64 s, .slice a n c] 28).alloc (.cells #[.int .i64 e', .int .i64 s', .slice a' n' c'] 28)
  have x5 := Box.new (w.alloc (.cells #[.int .i64 e, .int .i64 s, .slice a n c] 28)) #[.int .i64 e', .int .i64 s', .slice a' n' c'] 28
  have B1 := (Below.refl w.heap.size w).alloc (Nat.le_refl _) (.cells #[.int .i64 e, .int .i64 s, .slice a n c] 28)
  have B2 := B1.alloc B1.size (.cells #[.int .i64 e', .int .i64 s', .slice a' n' c'] 28)
  have hs1 : (w.alloc (.cells #[.int .i64 e, .int .i64 s, .slice a n c] 28)).heap.size = w.heap.size + 1 := by simp
  rw [hs1] at x5
  clear B1 hs1
  have P1 := putG_any e s a n c is _ hl hn (hI.below B2)
  have PN : Hid (∀ u : World, Imgs u a' is' → Calls Try.prog 7 #[.agg #[.int .i64 e', .int .i64 s', .slice a' n' c']] u (PutR u e' s' is' n')) := fun u hu => putG_any e' s' a' n' c' is' u hl' hn' hu
  have HL : Hid (is.length = n) := hl
  have HL' : Hid (is'.length = n') := hl'
  have HI : Hid (Imgs w a is) := hI
  have HI' : Hid (Imgs w a' is') := hI'
  have HX : Hid (xs.length = nl) := hx
  have HIN : Hid (Ints w al xs) := hL
  clear hl hl' hI hI' hx hL
  go_enter Try.func5, Try.ntmps5
  go_wp2_with fail
  refine P1.mono ?_
  rintro r w1 hP1
  clear P1
  have b1 := hP1.below
  replace x4 := x4.below b1
  replace x5 := x5.below b1
  replace B2 := B2.trans (b1.mono B2.size)
  have P2 := PN.out w1 (HI'.out.below B2)
  have y0 := x5.cell 0
  have y1 := x5.cell 1
  have y2 := x5.cell 2
  have HA : Hid (∀ u : World, Calls Try.prog 18 #[] u fun r w' => r = .returned (.bool true) ∧ Below u.heap.size u w') := awake_at
  rcases hP1 with ⟨E, S, rfl, rfl, hok, gl, cL, rfl, hLs, b1⟩ | ⟨_, rfl, b1⟩
  · clear b1
    have HOK : Hid (okGroup E S is) := hok
    have HLS : Hid (Lsts w1 (some ⟨gl, 0, none⟩) (putL E S is)) := hLs
    clear hok hLs
    go_wp2_with fail
    refine P2.mono ?_
    rintro r w2 hP2
    clear P2 y0 y1 y2
    have b2 := hP2.below
    replace x4 := x4.below b2
    replace x5 := x5.below b2
    replace B2 := B2.trans (b2.mono B2.size)
    rcases hP2 with ⟨E', S', rfl, rfl, hok', gm, cM, rfl, hMs, b2'⟩ | ⟨_, rfl, b2'⟩
    · have HOK' : Hid (okGroup E' S' is') := hok'
      have HMS : Hid (Lsts w2 (some ⟨gm, 0, none⟩) (putL E' S' is')) := hMs
      replace HLS : Hid (Lsts w2 (some ⟨gl, 0, none⟩) (putL E S is)) := HLS.out.below b2
      clear hok' hMs b2 b2'
      have z0 := x4.cell 0
      have z1 := x4.cell 1
      have z2 := x4.cell 2
      have y0 := x5.cell 0
      have y1 := x5.cell 1
      have y2 := x5.cell 2
      obtain ⟨p1, hp1⟩ : ∃ p, ((E : Int) == (E' : Int)) = p := ⟨_, rfl⟩
      obtain ⟨p2, hp2⟩ : ∃ p, ((S : Int) == (S' : Int)) = p := ⟨_, rfl⟩
      have HD : Hid ((p1 && p2) = decide (E = E' ∧ S = S')) := by
        show _ = _
        rw [← hp1, ← hp2, Bool.eq_iff_iff]
        simp
        omega
      go_upto_region 3 with fail
      go_cut [53] from 24 (fun t u => t = .bool (p1 && p2) ∧ w2 = u)
      case first =>
        clear HD
        cases p1 <;> cases p2
        all_goals
          go_wp2_with fail
          go_meet
          case rel => exact ⟨rfl, rfl⟩
      case rest =>
        obtain ⟨rfl, rfl⟩ := hcut
        clear hp1 hp2
        cases hpp : (p1 && p2) with
        | true =>
          clear HD hpp
          go_wp2_with fail
          refine (HA.out _).mono ?_
          rintro r w3 ⟨rfl, b3⟩
          have B3 := B2.trans (b3.mono B2.size)
          go_wp2_with fail
          go_ret
          exact ⟨rfl, B3⟩
        | false =>
          have HNE : Hid (¬ (E = E' ∧ S = S')) := of_decide_eq_false (HD.out.symm.trans hpp)
          clear HD hpp z0 z1 z2 y0 y1 y2 PN
          obtain ⟨h1, h32⟩ := is_length HOK.out
          obtain ⟨h1', h32'⟩ := is_length HOK'.out
          rw [HL.out] at h1 h32
          rw [HL'.out] at h1' h32'
          go_wp2_with fail
          refine (get_put E S is (some ⟨gl, 0, none⟩) n (n + 1) cL w2 HOK.out HL.out rfl HLS.out).mono ?_
          rintro r w3 ⟨a9, c9, rfl, hI9, b3⟩
          have ba := (Below.refl _ w3).alloc (Nat.le_refl _) (.cells #[.int .i64 (E : Int), .int .i64 (S : Int), .slice a9 n c9] 28)
          replace x4 := (x4.below b3).below ba
          replace x5 := (x5.below b3).below ba
          have x13 := Box.new w3 #[.int .i64 (E : Int), .int .i64 (S : Int), .slice a9 n c9] 28
          replace hI9 := hI9.below ba
          replace B2 := B2.trans (b3.mono B2.size)
          replace B2 := B2.trans (ba.mono B2.size)
          replace HLS : Hid (Lsts _ (some ⟨gl, 0, none⟩) (putL E S is)) := (HLS.out.below b3).below ba
          replace HMS : Hid (Lsts _ (some ⟨gm, 0, none⟩) (putL E' S' is')) := (HMS.out.below b3).below ba
          clear b3 ba
          have z0 := x4.cell 0
          have z1 := x4.cell 1
          have z2 := x4.cell 2
          have y0 := x13.cell 0
          have y1 := x13.cell 1
          have y2 := x13.cell 2
          go_wp2_with fail
          refine (sameGroup_at _ _ _ _ _ _ n _ n _ is is _ HL.out HL.out (by omega) hI9 (HI.out.below B2)).mono ?_
          rintro r w4 ⟨rfl, b4⟩
          rw [decide_eq_true ⟨rfl, rfl, rfl⟩]
          clear z0 z1 z2 y0 y1 y2 x13 hI9
          replace x4 := x4.below b4
          replace x5 := x5.below b4
          replace B2 := B2.trans (b4.mono B2.size)
          replace HLS : Hid (Lsts _ (some ⟨gl, 0, none⟩) (putL E S is)) := HLS.out.below b4
          replace HMS : Hid (Lsts _ (some ⟨gm, 0, none⟩) (putL E' S' is')) := HMS.out.below b4
          clear b4
          go_wp2_with fail
          refine (copyLists_at (some ⟨gl, 0, none⟩) (n + 1) cL (putL E S is) w4 (by rw [putL_length, HL.out]) (by omega) HLS.out (putL_len HOK.out)).mono ?_
          rintro r w5 ⟨v, ps, rfl, own, hJ, hps, b5⟩
          obtain ⟨av, cv, rfl⟩ := owns_shape own
          obtain ⟨gv, rfl, hgv⟩ : ∃ gv, av = some ⟨gv, 0, none⟩ ∧ w4.heap.size ≤ gv := by
            obtain ⟨gv, h1, h2, _⟩ := owns_cells own (by omega)
            exact ⟨gv, h1, h2⟩
          obtain ⟨L, hLd⟩ : ∃ L, L = putL E S is := ⟨_, rfl⟩
          obtain ⟨M, hMd⟩ : ∃ M, M = putL E' S' is' := ⟨_, rfl⟩
          have HLD : Hid (L = putL E S is) := hLd
          have HMD : Hid (M = putL E' S' is') := hMd
          have HL4 : Hid (∀ x ∈ L, x.length = 4096) := by rw [hLd]; exact putL_len HOK.out
          have HM4 : Hid (∀ x ∈ M, x.length = 4096) := by rw [hMd]; exact putL_len HOK'.out
          have HLN : Hid (L.length = n + 1) := by show _ = _; rw [hLd, putL_length, HL.out]
          have HMN : Hid (M.length = n' + 1) := by show _ = _; rw [hMd, putL_length, HL'.out]
          rw [← hMd] at HMS
          rw [← hLd] at hps
          have HPS : Hid (ps.map GG.xs = L) := hps
          clear hps hLd hMd HLS HL
          go_wp2_with fail
          go_loopw [16, 17] (fun v16 v17 u => ∃ (k : Nat) (ps : List GG), k ≤ nl ∧ k ≤ 40 ∧ v17 = .int .i64 (k : Int) ∧ v16 = .bool (decide (0 < k)) ∧ u.ownsRow w4.heap.size 31 1 (.slice (some ⟨gv, 0, none⟩) (n + 1) cv) (n + 1) (lstC ps) ∧ GetJ w4.heap.size u ps ∧ MixP L M (ps.map GG.xs) (0 < k) ∧ Below w4.heap.size w4 u) (fun _ i _ => nl - (intOf i).toNat)
          case atStart => exact ⟨0, ps, Nat.zero_le _, by omega, rfl, rfl, own, hJ, by rw [HPS.out]; exact ⟨rfl, HL4.out, fun _ _ _ => .inl rfl, fun h => absurd h (by omega)⟩, b5⟩
          case round =>
            clear own hJ HPS b5 ps
            obtain ⟨k, ps, hk, hk40, rfl, rfl, own, hJ, hX, b5⟩ := hrel
            have HXM : Hid (MixP L M (ps.map GG.xs) (0 < k)) := hX
            clear hX
            have hlen : ps.length = n + 1 := by
              have := HXM.out.len
              rw [HLN.out] at this
              simpa using this
            by_cases hlt : k < nl ∧ k < 40
            · obtain ⟨hlt1, hlt2⟩ := hlt
              have hkx : k < xs.length := by rw [HX.out]; exact hlt1
              obtain ⟨bl, ol, rfl, hcl⟩ := HIN.out (by omega)
              have ck := hcl k hkx
              rw [← (B2.trans (b5.mono B2.size)).cell (p := ⟨bl, ol + k, none⟩) (block_lt_of_cell ck)] at ck
              generalize (xs[k]'hkx) = xk at ck
              have HLEN : Hid (ps.length = n + 1) := hlen
              clear hcl hlen
              go_wp2_with fail
              refine (pick_at _ (8 * (n + 1)) _ _ (by push_cast; rfl) (by omega) (by omega)).mono ?_
              rintro r w6 ⟨p, hp, rfl, rfl⟩
              clear ck
              obtain ⟨b, hb⟩ : ∃ b : Nat, (p : Int) / 8 = (b : Int) := ⟨p / 8, by omega⟩
              obtain ⟨t, ht⟩ : ∃ t : Nat, (p : Int) % 8 = (t : Int) := ⟨p % 8, by omega⟩
              have hbn : b < n + 1 := by omega
              have ht8 : t < 8 := by omega
              clear hp
              obtain ⟨T, hT⟩ : ∃ T, T = secT q M b t := ⟨_, rfl⟩
              have HT : Hid (T = secT q M b t) := hT
              have HTL : Hid (T.length = 512) := by show _ = _; rw [hT]; exact secT_length q M b t HM4.out ht8
              clear hT
              go_wp2_with fail
              simp only [ht]
              clear hb ht
              go_loopw [21] (fun v u => ∃ (j : Nat) (qs : List GG), t * 512 ≤ j ∧ j ≤ t * 512 + 512 ∧ v = .int .i64 (j : Int) ∧ u.ownsRow w4.heap.size 31 1 (.slice (some ⟨gv, 0, none⟩) (n + 1) cv) (n + 1) (lstC qs) ∧ GetJ w4.heap.size u qs ∧ qs.map GG.xs = (ps.map GG.xs).modify b (fun x => over x (t * 512) (T.take (j - t * 512))) ∧ Below w4.heap.size w4 u) (fun v _ => t * 512 + 512 - (intOf v).toNat)
              case atStart => exact ⟨t * 512, ps, Nat.le_refl _, by omega, by push_cast; rfl, own, hJ, by rw [Nat.sub_self, List.take_zero]; exact (modify_nil _ _ _).symm, b5⟩
              case round =>
                clear own hJ b5
                obtain ⟨j, qs, hj1, hj2, rfl, own, hJ, hQ, b5⟩ := hrel
                have hql : qs.length = n + 1 := by
                  have := congrArg List.length hQ
                  simpa [HLEN.out] using this
                have HQ : Hid (qs.map GG.xs = (ps.map GG.xs).modify b fun x => over x (t * 512) (T.take (j - t * 512))) := hQ
                clear hQ
                by_cases hjl : j < t * 512 + 512
                · have hi1 : (j : Int) < ((t : Int) + 1) * 512 := by omega
                  obtain ⟨gv', he, _, ⟨cur, xv⟩, hcv⟩ := owns_cells own (by omega)
                  obtain rfl : gv = gv' := by simpa using he
                  have cb := hcv b (by omega)
                  have hbq : b < qs.length := by omega
                  rw [show (lstC qs)[b]? = some (.slice (some ⟨(qs[b]).h, 0, none⟩) 4096 (qs[b]).c) by simp [lstC, hbq]] at cb
                  obtain ⟨r1, r2, r3⟩ := hJ.rows qs[b] (List.getElem_mem hbq)
                  obtain ⟨cj, fj⟩ := r1.cellAt (j := j) (by omega)
                  have HB : Hid (∀ (v : UInt8) (u : World), u = wr.setCell ⟨(qs[b]).h, j, none⟩ (.int .u8 (v.toNat : Int)) → T[j - t * 512]? = some v → u.ownsRow w4.heap.size 31 1 (.slice (some ⟨gv, 0, none⟩) (n + 1) cv) (n + 1) (lstC (byteP qs b j v)) ∧ GetJ w4.heap.size u (byteP qs b j v) ∧ (byteP qs b j v).map GG.xs = (ps.map GG.xs).modify b (fun x => over x (t * 512) (T.take (j + 1 - t * 512))) ∧ Below w4.heap.size w4 u) := by
                    intro v u hu hv
                    subst hu
                    refine ⟨by rw [byteP_c]; exact owns_byte own r1 _, hJ.byte b hbq j (by omega) v, byte_step HQ.out hj1 hjl HTL.out (fun x hx => ?_) hv, b5.setCell (p := ⟨(qs[b]).h, j, none⟩) r2 _⟩
                    have := HXM.out.l4 x hx
                    omega
                  have nev : (qs[b]).h ≠ gv := by
                    obtain ⟨cur2, hb2, _⟩ := r1
                    exact Box.ne hb2 xv (by decide)
                  have HR1 : Hid (RowB wr (qs[b]).h (qs[b]).c (qs[b]).xs) := r1
                  have HR2 : Hid (w4.heap.size ≤ (qs[b]).h) := r2
                  generalize (((qs[b]).xs[j]'(by omega)).toNat : Int) = cz at cj
                  generalize hh : (qs[b]).h = hB at cb cj fj HB nev HR1 HR2
                  generalize (qs[b]).c = cB at cb HR1
                  clear hh hcv he r1 r2 r3 own hJ
                  by_cases hq : q = true
                  · subst hq
                    go_wp2_with fail
                    go_roundw
                    case rel =>
                      obtain ⟨z1, z2, z3, z4⟩ := HB.out 0 _ rfl (by rw [HT.out]; exact secT_nought (.inl rfl) _ (by omega))
                      exact ⟨j + 1, _, by omega, by omega, by push_cast; rfl, z1, z2, z3, z4⟩
                    case measure => simp [intOf]; omega
                  · obtain rfl : q = false := by simpa using hq
                    clear hq
                    by_cases hbm : n' + 1 ≤ b
                    · have hbi : (n' : Int) + 1 ≤ (b : Int) := by omega
                      go_wp2_with fail
                      go_roundw
                      case rel =>
                        obtain ⟨z1, z2, z3, z4⟩ := HB.out 0 _ rfl (by rw [HT.out]; exact secT_nought (.inr (by rw [HMN.out]; exact hbm)) _ (by omega))
                        exact ⟨j + 1, _, by omega, by omega, by push_cast; rfl, z1, z2, z3, z4⟩
                      case measure => simp [intOf]; omega
                    · have hbM : b < M.length := by rw [HMN.out]; omega
                      obtain ⟨gm', om, hem, hcm⟩ := HMS.out (by omega)
                      obtain ⟨rfl, rfl⟩ : gm = gm' ∧ 0 = om := by simpa using hem
                      obtain ⟨xm, cxm, m1, m2, m3, m4, m5⟩ := hcm b hbM
                      have hm4 : (M[b]).length = 4096 := HM4.out _ (List.getElem_mem hbM)
                      rw [hm4] at m1 m2
                      obtain ⟨gx, ox, rfl, hcx⟩ := m5 (by omega)
                      have m6 := hcx j (by omega)
                      have l1 : gm < w4.heap.size := block_lt_of_cell m1
                      have l2 : gx < w4.heap.size := block_lt_of_cell m6
                      rw [Nat.zero_add, ← b5.cell (p := ⟨gm, b, none⟩) l1] at m1
                      rw [← b5.cell (p := ⟨gx, ox + j, none⟩) l2] at m6
                      have HV : Hid (T[j - t * 512]? = some ((M[b])[j]'(by omega))) := by
                        show _ = _
                        rw [HT.out, secT_other hbM _ (by omega), show t * 512 + (j - t * 512) = j by omega]
                        exact List.getElem?_eq_getElem (by omega)
                      generalize ((M[b])[j]'(by omega)) = vy at m6 HV
                      have ne1 : hB ≠ gm := by have := HR2.out; omega
                      have ne2 : hB ≠ gx := by have := HR2.out; omega
                      have hbi : (b : Int) < (n' : Int) + 1 := by omega
                      have hbi2 : (b : Int) < (n : Int) + 1 := by omega
                      have hj40 : (j : Int) < 4096 := by omega
                      have hj0 : (0 : Int) ≤ (j : Int) := by omega
                      have hb0 : (0 : Int) ≤ (b : Int) := by omega
                      have nev' := nev.symm
                      have ne1' := ne1.symm
                      have ne2' := ne2.symm
                      clear hcm hem m2 m3 m4 m5 hcx hm4 l1 l2
                      go_wp2_with fail
                      go_region_held3 (fun u => u.cell? ⟨gv, b, none⟩ = some (.slice (some ⟨hB, 0, none⟩) 4096 cB) ∧ u.cell? ⟨gm, b, none⟩ = some (.slice (some ⟨gx, ox, none⟩) 4096 cxm) ∧ u.cell? ⟨gx, ox + j, none⟩ = some (.int .u8 (vy.toNat : Int))) (go_keep) (fail)
                      go_wp2_with fail
                      go_roundw
                      case rel =>
                        obtain ⟨z1, z2, z3, z4⟩ := HB.out vy _ rfl HV.out
                        have bd := (Below.refl (wr.setCell ⟨hB, j, none⟩ (.int .u8 (vy.toNat : Int))).heap.size (wr.setCell ⟨hB, j, none⟩ (.int .u8 (vy.toNat : Int)))).drew
                        exact ⟨j + 1, _, by omega, by omega, by push_cast; rfl, owns_below z1 bd, z2.below bd, z3, z4.drew⟩
                      case measure => simp [intOf]; omega
                · obtain rfl : j = t * 512 + 512 := by omega
                  have hi1 : ¬ ((t * 512 + 512 : Nat) : Int) < ((t : Int) + 1) * 512 := by push_cast; omega
                  go_wp2_with fail
                  go_roundw
                  case rel =>
                    refine ⟨k + 1, qs, by omega, by omega, by push_cast; rfl, by simp, own, hJ, ?_, b5⟩
                    have e1 : T.take (t * 512 + 512 - t * 512) = T := List.take_of_length_le (by rw [HTL.out]; omega)
                    rw [HQ.out, e1, HT.out]
                    exact HXM.out.step HM4.out q b t (by simp [HLEN.out]; omega) ht8
                  case measure => simp [intOf]; omega
            · have hXL := lsts_of own hJ hlen
              have BW := B2.trans (b5.mono B2.size)
              replace x5 := x5.below b5
              replace HMS : Hid (Lsts wr (some ⟨gm, 0, none⟩) M) := HMS.out.below b5
              have HOUT : Hid (¬ (k < nl ∧ k < 40)) := hlt
              clear own hJ x4 hlt
              by_cases h0 : 0 < k
              · rw [decide_eq_true h0]
                by_cases hg : isGrp (ps.map GG.xs)
                · have he : ps.map GG.xs = M := by
                    rw [HMD.out]
                    have h1 := HXM.out.len
                    have h2 := HXM.out.secs
                    have h3 := HXM.out.some h0
                    have hLD := HLD.out
                    have hMD := HMD.out
                    subst hLD hMD
                    exact mix_grp HOK.out HOK'.out HNE.out _ h1 h2 h3 hg
                  have HNN : Hid (n = n') := by
                    have h1 := congrArg List.length he
                    rw [HMN.out, List.length_map, hlen] at h1
                    show n = n'
                    omega
                  have HLEN : Hid (ps.length = n + 1) := hlen
                  have HG : Hid (Lsts wr (some ⟨gv, 0, none⟩) M) := by
                    rw [← he]
                    exact hXL
                  clear he hg hXL hlen
                  rcases (show ¬ k < nl ∨ (k < nl ∧ ¬ k < 40) by have := HOUT.out; omega) with hout | ⟨hout, hout2⟩
                  all_goals
                    go_wp2_with fail
                    refine (get_put E' S' is' _ n' (n + 1) _ wr HOK'.out HL'.out (by have := HNN.out; omega) (by rw [← HMD.out]; exact HG.out)).mono ?_
                    rintro r w6 ⟨a8, c8, rfl, hI8, b6⟩
                    have ba := (Below.refl _ w6).alloc (Nat.le_refl _) (.cells #[.int .i64 (E' : Int), .int .i64 (S' : Int), .slice a8 n' c8] 28)
                    replace x5 := (x5.below b6).below ba
                    have x22 := Box.new w6 #[.int .i64 (E' : Int), .int .i64 (S' : Int), .slice a8 n' c8] 28
                    replace hI8 := hI8.below ba
                    replace BW := BW.trans (b6.mono BW.size)
                    replace BW := BW.trans (ba.mono BW.size)
                    replace HG : Hid (Lsts _ (some ⟨gv, 0, none⟩) M) := (HG.out.below b6).below ba
                    replace HMS : Hid (Lsts _ (some ⟨gm, 0, none⟩) M) := (HMS.out.below b6).below ba
                    clear b6 ba
                    have z0 := x5.cell 0
                    have z1 := x5.cell 1
                    have z2 := x5.cell 2
                    have y0 := x22.cell 0
                    have y1 := x22.cell 1
                    have y2 := x22.cell 2
                    go_wp2_with fail
                    refine (sameGroup_at _ _ _ _ _ _ n' _ n' _ is' is' _ HL'.out HL'.out (by omega) hI8 (HI'.out.below BW)).mono ?_
                    rintro r w7 ⟨rfl, b7⟩
                    rw [decide_eq_true ⟨rfl, rfl, rfl⟩]
                    clear z0 z1 z2 y0 y1 y2 x22 hI8
                    replace BW := BW.trans (b7.mono BW.size)
                    replace HG : Hid (Lsts _ (some ⟨gv, 0, none⟩) M) := HG.out.below b7
                    replace HMS : Hid (Lsts _ (some ⟨gm, 0, none⟩) M) := HMS.out.below b7
                    clear b7
                    go_wp2_with fail
                    refine (sameLists_at _ _ (n + 1) _ (n' + 1) _ M M _ (by rw [HMN.out, HNN.out]) HMN.out (by omega) HG.out HMS.out).mono ?_
                    rintro r w8 ⟨rfl, b8⟩
                    rw [decide_eq_true rfl]
                    replace BW := BW.trans (b8.mono BW.size)
                    go_wp2_with fail
                    refine (HA.out _).mono ?_
                    rintro r w9 ⟨rfl, b9⟩
                    replace BW := BW.trans (b9.mono BW.size)
                    go_wp2_with fail
                    go_ret
                    exact ⟨rfl, BW⟩
                · rcases (show ¬ k < nl ∨ (k < nl ∧ ¬ k < 40) by have := HOUT.out; omega) with hout | ⟨hout, hout2⟩
                  all_goals
                    go_wp2_with fail
                    refine (get_no _ _ _ _ _ (by simpa using hlen) (by omega) (by omega) hXL hg).mono ?_
                    rintro r w6 ⟨rfl, b6⟩
                    have B6 := BW.trans (b6.mono BW.size)
                    have B7 := B6.alloc B6.size (.cells #[.int .i64 0, .int .i64 0, .slice none 0 0] 28)
                    go_wp2_with fail
                    refine (HA.out _).mono ?_
                    rintro r w8 ⟨rfl, b8⟩
                    have B8 := B7.trans (b8.mono B7.size)
                    go_wp2_with fail
                    go_ret
                    exact ⟨rfl, B8⟩
              · rw [decide_eq_false h0]
                have hout : ¬ k < nl := by have := HOUT.out; omega
                go_wp2_with fail
                refine (HA.out _).mono ?_
                rintro r w8 ⟨rfl, b8⟩
                have B8 := BW.trans (b8.mono BW.size)
                go_wp2_with fail
                go_ret
                exact ⟨rfl, B8⟩
    · clear b2 b2'
      go_wp2_with fail
      refine (HA.out _).mono ?_
      rintro r w3 ⟨rfl, b3⟩
      have B3 := B2.trans (b3.mono B2.size)
      go_wp2_with fail
      go_ret
      exact ⟨rfl, B3⟩
  · clear b1
    go_wp2_with fail
    refine P2.mono ?_
    rintro r w2 hP2
    clear P2 y0 y1 y2
    have b2 := hP2.below
    have B3 := B2.trans (b2.mono B2.size)
    clear x4 x5 b2
    rcases hP2 with ⟨_, _, _, _, _, _, _, rfl, _, _⟩ | ⟨_, rfl, _⟩
    all_goals
      go_wp2_with fail
      refine (HA.out _).mono ?_
      rintro r w3 ⟨rfl, b3⟩
      have B4 := B3.trans (b3.mono B3.size)
      go_wp2_with fail
      go_ret
      exact ⟨rfl, B4⟩
end Go.Proofs.Ytghcmlkgpedkkaa
