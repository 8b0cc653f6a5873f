/-
  RecordTells' walk, itself.
-/
import Derived.Test.YtghcmlkgpedkkaaTells
import Derived.Deep.Cut
namespace Go.Proofs.Ytghcmlkgpedkkaa
open Go.RowKit

/-- what stands in a round's question -/
@[reducible] def TeS (w : World) (gi oi gb ob k : Nat) (x : Option Addr) (n c : Nat) (y : Option Addr) (d : Nat) (ai : Option Addr) (ls : List (List UInt8)) (u : World) : Prop :=
  u.cell? ⟨gi, oi + k, none⟩ = some (.slice x n c) ∧ u.cell? ⟨gb, ob + k, none⟩ = some (.slice y n d) ∧ Hid (Below w.heap.size w u ∧ Lsts u ai ls)

theorem LstAt.below' {w w' : World} {b o : Nat} {xs : List UInt8} (h : LstAt w b o xs) (hb : Below w.heap.size w w') : LstAt w' b o xs := h.below hb

set_option maxRecDepth 100000 in
set_option maxHeartbeats 8000000 in
theorem tells_at (e s : Int) (a : Option Addr) (n c : Nat) (is : List (Int × List UInt8)) (ab : Option Addr) (nb cb : Nat) (ls : List (List UInt8)) (ep sq : Int) (w : World) (hl : is.length = n) (hI : Imgs w a is) (hn : n * 32 ≤ 140737488355328) (h47 : ∀ i ∈ is, i.2.length ≤ 140737488355328)
    (hlb : ls.length = nb) (hL : Lsts w ab ls) (hb47 : ∀ x ∈ ls, x.length ≤ 140737488355328) :
    Calls Try.prog 4 #[.agg #[.int .i64 e, .int .i64 s, .slice a n c], .slice ab nb cb, .int .i64 ep, .int .i64 sq] w fun r w' => r = .returned (.bool true) ∧ Below w.heap.size w w' := by
  have x4 := Box.new w #[.int .i64 e, .int .i64 s, .slice a n c] 28
  have B1 := (Below.refl w.heap.size w).alloc (Nat.le_refl _) (.cells #[.int .i64 e, .int .i64 s, .slice a n c] 28)
  have HA : Hid (∀ u : World, Calls Try.prog 18 #[] u fun r w' => r = .returned (.bool true) ∧ Below u.heap.size u w') := awake_at
  have HL : Hid (is.length = n) := hl
  have HI : Hid (Imgs w a is) := hI
  have H47 : Hid (∀ i ∈ is, i.2.length ≤ 140737488355328) := h47
  have HLB : Hid (ls.length = nb) := hlb
  have HLS : Hid (Lsts w ab ls) := hL
  have HB47 : Hid (∀ x ∈ ls, x.length ≤ 140737488355328) := hb47
  clear hl hI h47 hlb hL hb47
  by_cases hsm : n ≤ 40 ∧ nb ≤ 40
  · obtain ⟨hn40, hb40⟩ := hsm
    have i1 : ¬ (40 : Int) < (n : Int) := by omega
    have i2 : ¬ (40 : Int) < (nb : Int) := by omega
    have cC := copyImages_at a n c is _ HL.out hn (HI.out.below B1) H47.out
    go_enter Try.func4, Try.ntmps4
    go_wp2_with fail
    refine cC.mono ?_
    rintro r w1 ⟨ac, cc, ps, rfl, own1, hJ1, hps, b1⟩
    clear cC
    have hIc := imgs_cp own1 hJ1 (by rw [← HL.out, ← hps]; simp)
    rw [hps] at hIc
    replace x4 := x4.below b1
    replace B1 := B1.trans (b1.mono B1.size)
    clear own1 hJ1 hps b1
    have cL := copyListsA_at ab nb cb ls w1 HLB.out (by omega) (HLS.out.below B1) HB47.out
    go_wp2_with fail
    refine cL.mono ?_
    rintro r w2 ⟨ai, ci, rfl, hLi, b2⟩
    clear cL
    replace x4 := x4.below b2
    replace B1 := B1.trans (b2.mono B1.size)
    replace hIc := hIc.below b2
    clear b2
    have z0 := x4.cell 0
    have z1 := x4.cell 1
    have z2 := x4.cell 2
    have cP := putG_any e s ac n cc is w2 HL.out hn hIc
    go_wp2_with fail
    refine cP.mono ?_
    rintro r w3 hP
    clear cP z0 z1 z2
    obtain ⟨aL, cL, rfl, hLL, b3⟩ := hP.one HL.out
    clear hP
    replace x4 := x4.below b3
    replace B1 := B1.trans (b3.mono B1.size)
    replace hIc := hIc.below b3
    replace hLi := hLi.below b3
    clear b3
    have z0 := x4.cell 0
    have z1 := x4.cell 1
    have z2 := x4.cell 2
    have cP := rputG_any e s a n c is w3 HL.out (HI.out.below B1)
    go_wp2_with fail
    refine cP.mono ?_
    rintro r w4 hP
    clear cP z0 z1 z2
    obtain ⟨aM, cM, rfl, hMM, b4⟩ := hP.one HL.out
    clear hP
    replace x4 := x4.below b4
    replace B1 := B1.trans (b4.mono B1.size)
    replace hIc := hIc.below b4
    replace hLi := hLi.below b4
    replace hLL := hLL.below b4
    clear b4
    have hp33 := putA_len e s is
    generalize (putA e s is).1 = PL at hLL hMM hp33 ⊢
    generalize (putA e s is).2 = per at ⊢
    have HLL : Hid (Lsts w4 aL PL) := hLL
    have HMM : Hid (Lsts w4 aM PL) := hMM
    obtain ⟨np, hnp⟩ : ∃ np, np = PL.length := ⟨_, rfl⟩
    rw [← hnp] at hp33 ⊢
    have HNP : Hid (PL.length = np) := hnp.symm
    clear hLL hMM hnp
    have cG := get_one ai nb ci ls w4 HLB.out (by omega) hLi
    go_wp2_with fail
    refine cG.mono ?_
    rintro r w5 ⟨a5, c5, rfl, hI5, b5⟩
    clear cG
    have ba := (Below.refl w5.heap.size w5).alloc (Nat.le_refl _) (.cells #[.int .i64 (getA ls).1.1, .int .i64 (getA ls).1.2, .slice a5 (getA ls).2.1.length c5] 28)
    have x15 := Box.new w5 #[.int .i64 (getA ls).1.1, .int .i64 (getA ls).1.2, .slice a5 (getA ls).2.1.length c5] 28
    replace x4 := (x4.below b5).below ba
    replace B1 := (B1.trans (b5.mono B1.size)).trans (ba.mono (Nat.le_trans B1.size b5.size))
    replace hIc := (hIc.below b5).below ba
    replace hLi := (hLi.below b5).below ba
    replace HLL : Hid (Lsts _ aL PL) := (HLL.out.below b5).below ba
    replace HMM : Hid (Lsts _ aM PL) := (HMM.out.below b5).below ba
    replace hI5 := hI5.below ba
    clear b5 ba
    have cG := rget_one ab nb cb ls (w5.alloc (.cells #[.int .i64 (getA ls).1.1, .int .i64 (getA ls).1.2, .slice a5 (getA ls).2.1.length c5] 28)) HLB.out (by omega) (HLS.out.below B1)
    go_wp2_with fail
    refine cG.mono ?_
    rintro r w6 ⟨a6, c6, rfl, hI6, b6⟩
    clear cG
    have ba := (Below.refl w6.heap.size w6).alloc (Nat.le_refl _) (.cells #[.int .i64 (getA ls).1.1, .int .i64 (getA ls).1.2, .slice a6 (getA ls).2.1.length c6] 28)
    have x17 := Box.new w6 #[.int .i64 (getA ls).1.1, .int .i64 (getA ls).1.2, .slice a6 (getA ls).2.1.length c6] 28
    replace x4 := (x4.below b6).below ba
    replace x15 := (x15.below b6).below ba
    replace B1 := (B1.trans (b6.mono B1.size)).trans (ba.mono (Nat.le_trans B1.size b6.size))
    replace hIc := (hIc.below b6).below ba
    replace hLi := (hLi.below b6).below ba
    replace HLL : Hid (Lsts _ aL PL) := (HLL.out.below b6).below ba
    replace HMM : Hid (Lsts _ aM PL) := (HMM.out.below b6).below ba
    replace hI5 := (hI5.below b6).below ba
    replace hI6 := hI6.below ba
    clear b6 ba
    have hg32 := getA_len ls
    obtain ⟨W7, hW7⟩ : ∃ u, u = w6.alloc (.cells #[.int .i64 (getA ls).1.1, .int .i64 (getA ls).1.2, .slice a6 (getA ls).2.1.length c6] 28) := ⟨_, rfl⟩
    rw [← hW7] at x4 x15 x17 B1 hIc hLi HLL HMM hI5 hI6
    have HW : Hid (W7 = w6.alloc (.cells #[.int .i64 (getA ls).1.1, .int .i64 (getA ls).1.2, .slice a6 (getA ls).2.1.length c6] 28)) := hW7
    clear hW7
    go_upto_region 9 with fail
    rw [← HW.out]
    clear HW
    generalize (getA ls).1.1 = ge at x15 x17 ⊢
    generalize (getA ls).1.2 = gs at x15 x17 ⊢
    generalize (getA ls).2.2 = ger at ⊢
    generalize hGI : (getA ls).2.1 = GI at x15 x17 hI5 hI6 hg32 ⊢
    clear hGI
    obtain ⟨ng, hng⟩ : ∃ ng, ng = GI.length := ⟨_, rfl⟩
    rw [← hng] at x15 x17 hg32 ⊢
    have HNG : Hid (GI.length = ng) := hng.symm
    clear hng
    have v0 := x15.cell 0
    have v1 := x15.cell 1
    have v2 := x15.cell 2
    have y0 := x17.cell 0
    have y1 := x17.cell 1
    have y2 := x17.cell 2
    have cS := sameLists_at aL aM np cL np cM PL PL W7 HNP.out HNP.out (by omega) HLL.out HMM.out
    rw [decide_eq_true rfl] at cS
    go_wp2_with fail
    refine cS.mono ?_
    clear cS
    rintro r w8 ⟨rfl, b8⟩
    clear v0 v1 v2 y0 y1 y2
    replace x4 := x4.below b8
    replace x15 := x15.below b8
    replace x17 := x17.below b8
    replace B1 := B1.trans (b8.mono B1.size)
    replace hIc := hIc.below b8
    replace hLi := hLi.below b8
    replace hI5 := hI5.below b8
    replace hI6 := hI6.below b8
    clear b8 HLL HMM
    have v0 := x15.cell 0
    have v1 := x15.cell 1
    have v2 := x15.cell 2
    have y0 := x17.cell 0
    have y1 := x17.cell 1
    have y2 := x17.cell 2
    have cS := sameGroup_at ge gs ge gs a5 a6 ng c5 ng c6 GI GI w8 HNG.out HNG.out (by omega) hI5 hI6
    rw [decide_eq_true ⟨rfl, rfl, rfl⟩] at cS
    go_wp2_with fail
    refine cS.mono ?_
    clear cS
    rintro r w9 ⟨rfl, b9⟩
    clear v0 v1 v2 y0 y1 y2 x15 x17 hI5 hI6
    replace x4 := x4.below b9
    replace B1 := B1.trans (b9.mono B1.size)
    replace hIc := hIc.below b9
    replace hLi := hLi.below b9
    clear b9
    go_wp2_with fail
    go_loopw [19] (fun v u => ∃ k : Nat, k ≤ nb ∧ v = .int .i64 (k : Int) ∧ Box u w.heap.size #[.int .i64 e, .int .i64 s, .slice a n c] 28 ∧ Imgs u ac is ∧ Lsts u ai ls ∧ Below w.heap.size w u) (fun v _ => nb - (intOf v).toNat)
    case atStart => exact ⟨0, Nat.zero_le _, rfl, x4, hIc, hLi, B1⟩
    case round =>
      clear x4 hIc hLi B1
      obtain ⟨k, hk, rfl, x4, hIc, hLi, B1⟩ := hrel
      by_cases hlt : k < nb
      · have k1 : k < ls.length := by rw [HLB.out]; exact hlt
        obtain ⟨gi, oi, rfl, hci⟩ := hLi (by omega)
        obtain ⟨gb, ob, rfl, hcb⟩ := HLS.out (by omega)
        have hLi2 : Lsts wr (some ⟨gi, oi, none⟩) ls := hLi
        obtain ⟨x, cx, g1, g2, g3, g4, g5⟩ := hci k k1
        obtain ⟨y, cy, f1, f2, f3, f4, f5⟩ := (hcb k k1).below' B1
        generalize (ls[k]'k1) = xs at g1 g2 g5 f1 f2 f5
        obtain ⟨L, hLd⟩ : ∃ L, L = xs.length := ⟨_, rfl⟩
        rw [← hLd] at g1 g2 f1 f2
        have HX : Hid (xs.length = L) := hLd.symm
        have lgi : gi < wr.heap.size := block_lt_of_cell g1
        have lgb : gb < wr.heap.size := block_lt_of_cell f1
        have HC : Hid (∀ u : World, Below wr.heap.size wr u → u.cell? ⟨gi, oi + k, none⟩ = some (.slice x L cx) ∧ u.cell? ⟨gb, ob + k, none⟩ = some (.slice y L cy) ∧ Hid (Below wr.heap.size wr u)) := fun u hu => ⟨(hu.cell (p := ⟨gi, oi + k, none⟩) lgi).trans g1, (hu.cell (p := ⟨gb, ob + k, none⟩) lgb).trans f1, hu⟩
        have HRX : Hid (Rd wr x xs) := g5
        have HRY : Hid (Rd wr y xs) := f5
        have hki : (k : Int) < (nb : Int) := by omega
        have hk0 : (0 : Int) ≤ (k : Int) := by omega
        have c1 := head_at x L cx xs wr HX.out g2 g3 g5
        clear hci hcb hLd g4 f4 g5 f5 lgi lgb hLi
        go_wp2_with fail
        refine c1.mono ?_
        clear c1
        rintro r w10 hH
        obtain ⟨rfl, b10⟩ := hH.one
        clear hH
        clear g1 f1
        have f1 := (HC.out w10 b10).2.1
        have c2 := rhead_tell y L cy xs w10 HX.out (HRY.out.below b10 (Nat.le_refl _)) f2
        go_wp2_with fail
        refine c2.mono ?_
        clear c2
        rintro r w11 hH
        obtain ⟨rfl, b11⟩ := hH.one
        clear hH f1
        have b12 := b10.trans (b11.mono b10.size)
        generalize (headA xs).1.1 = p1 at ⊢
        generalize (headA xs).1.2 = p2 at ⊢
        generalize (headA xs).2.1 = p3 at ⊢
        generalize (headA xs).2.2 = p4 at ⊢
        clear b10 b11
        go_upto_region 16 with fail
        go_region_held3 (fun u => u.cell? ⟨gi, oi + k, none⟩ = some (.slice x L cx) ∧ u.cell? ⟨gb, ob + k, none⟩ = some (.slice y L cy) ∧ Hid (Below wr.heap.size wr u))
          (first | with_reducible exact HC.out _ b12.drew | with_reducible exact HC.out _ (b13) | with_reducible assumption)
          (first
            | (go_at_call 16; refine Calls.mono (stamped_at x L cx xs _ _ _ HX.out g2 g3 (HRX.out.below (And.right (And.right (show _ ∧ _ ∧ Hid (Below wr.heap.size wr _) by with_reducible assumption))).out (Nat.le_refl _))) ?_; rintro e u16 ⟨rfl, b⟩; have b13 := (And.right (And.right (show _ ∧ _ ∧ Hid (Below wr.heap.size wr _) by with_reducible assumption))).out.trans (b.mono (And.right (And.right (show _ ∧ _ ∧ Hid (Below wr.heap.size wr _) by with_reducible assumption))).out.size); clear b)
            | (go_at_call 25; refine Calls.mono (rstamped_at y L cy xs _ _ _ HX.out f2 (HRY.out.below (And.right (And.right (show _ ∧ _ ∧ Hid (Below wr.heap.size wr _) by with_reducible assumption))).out (Nat.le_refl _))) ?_; clear b13; rintro e u25 ⟨rfl, b⟩; have b13 := (And.right (And.right (show _ ∧ _ ∧ Hid (Below wr.heap.size wr _) by with_reducible assumption))).out.trans (b.mono (And.right (And.right (show _ ∧ _ ∧ Hid (Below wr.heap.size wr _) by with_reducible assumption))).out.size); clear b))
        have x4b := x4.below b13
        have hIb := hIc.below b13
        have hLb := hLi2.below b13
        have Bb := B1.trans (b13.mono B1.size)
        clear x4 hIc hLi2 B1 b13 b12
        go_wp2_with fail
        go_roundw
        case rel => exact ⟨k + 1, by omega, by push_cast; rfl, x4b, hIb, hLb, Bb⟩
        case measure => simp [intOf]; omega
      · have hke : k = nb := by omega
        have z2 := x4.cell 2
        have cS := sameImages_at ac a n cc n c is is wr HL.out HL.out (by omega) hIc (HI.out.below B1)
        rw [decide_eq_true rfl] at cS
        have hki : ¬ (k : Int) < (nb : Int) := by omega
        go_wp2_with fail
        refine cS.mono ?_
        clear cS
        rintro r w10 ⟨rfl, b10⟩
        have B10 := B1.trans (b10.mono B1.size)
        have cS := sameLists_at ai ab nb ci nb cb ls ls w10 HLB.out HLB.out (by omega) (hLi.below b10) (HLS.out.below B10)
        rw [decide_eq_true rfl] at cS
        go_wp2_with fail
        refine cS.mono ?_
        clear cS
        rintro r w11 ⟨rfl, b11⟩
        have B11 := B10.trans (b11.mono B10.size)
        go_wp2_with fail
        refine (HA.out _).mono ?_
        rintro r w12 ⟨rfl, b12⟩
        have B12 := B11.trans (b12.mono B11.size)
        go_wp2_with fail
        go_ret
        exact ⟨rfl, B12⟩
  · have hcase : (40 : Int) < (n : Int) ∨ (¬ (40 : Int) < (n : Int) ∧ (40 : Int) < (nb : Int)) := by omega
    clear hsm
    rcases hcase with h1 | ⟨h1, h2⟩
    all_goals
      go_enter Try.func4, Try.ntmps4
      go_wp2_with fail
      refine (HA.out _).mono ?_
      rintro r w12 ⟨rfl, b12⟩
      have B12 := B1.trans (b12.mono B1.size)
      go_wp2_with fail
      go_ret
      exact ⟨rfl, B12⟩
end Go.Proofs.Ytghcmlkgpedkkaa
