/-
  The walk of the document's Crash.
-/
import Derived.Test.YtagnmmapnpcijaaRefCrashP
namespace Go.Proofs.Ytagnmmapnpcijaa
open Go.RowKit

theorem RowB.set {w : World} {g cap : Nat} {ys : List UInt8} (h : RowB w g cap ys) (j : Nat) (c : UInt8) : RowB (w.setCell ⟨g, j, none⟩ (.int .u8 (c.toNat : Int))) g cap (ys.set j c) := by
  obtain ⟨cur, hb, h1, h2, h3, h4⟩ := h
  refine ⟨_, hb.store j _, by simpa using h1, h2, by simpa using h3, ?_⟩
  rw [Array.toList_setIfInBounds, List.length_set, List.take_set, h4]
  simp [bcs, bc, List.map_set]
theorem CRow.of_own {w0 w : World} {Q : Nat → Prop} {B n : Nat} {v : Value} {xs : List Value} {d : List UInt8} (h : w.ownsRow B 27 1 v n xs) (h0 : 0 < n) (hB : w0.heap.size ≤ B) (hx : ∀ j, j < n → ∃ u, xs[j]? = some u ∧ BlkAt w Q u (blk d j)) : ∃ g c, v = .slice (some ⟨g, 0, none⟩) n c ∧ CRow w0 w Q g n c d := by
  rcases h.2 with ⟨_, h2⟩ | ⟨g, cap, cur, rfl, hB', hg, hnc, hcm, hcs, ht⟩
  · omega
  · refine ⟨g, cap, rfl, ⟨cur, hg, by omega, hnc, hcm, fun j hj => ?_⟩, by omega⟩
    obtain ⟨u, hu, hb⟩ := hx j hj
    refine ⟨u, ?_, hb⟩
    rw [← ht, List.getElem?_take, if_pos (by omega)] at hu
    simpa using hu
theorem CRow.safe {w0 w : World} {Q : Nat → Prop} {g n c : Nat} {d : List UInt8} {bs : List (List UInt8)} (h : CRow w0 w Q g n c d) (hl : bs.length = n) (hb : ∀ j, j < n → bs[j]? = some (blk d j)) (hQ : ∀ i, w0.heap.size ≤ i → Q i) : SafeAt w Q (some ⟨g, 0, none⟩) n c bs := by
  obtain ⟨⟨cur, hb27, h1, h2, h3, he⟩, hg⟩ := h
  refine ⟨hl, h2, h3, g, 0, rfl, hQ g hg, ⟨cur, hb27⟩, fun j x hx => ?_⟩
  have hj : j < n := by have := (List.getElem?_eq_some_iff.1 hx).1; omega
  obtain ⟨u, hu, hB⟩ := he j hj
  rw [hb j hj] at hx
  cases hx
  exact ⟨u, by rw [Nat.zero_add, hb27.cell j]; exact hu, hB⟩

theorem crash_len (D : DS) (ok : D.Ok) (ks : List Bool) (t : Int) (m : Nat) : ∀ k, k ≤ D.uf.length → (crashTo ks t m D.uf D.dur k).length = D.dur.length
  | 0, _ => rfl
  | k + 1, h => by
    have ih := crash_len D ok ks t m k (by omega)
    obtain ⟨h1, h2⟩ := ok.at k (by omega)
    have hfit : D.uf[k].1 * 4096 + 4096 ≤ (crashTo ks t m D.uf D.dur k).length := by rw [ih]; exact ok.room h1
    rw [crashTo, List.getElem?_eq_getElem (show k < D.uf.length by omega)]
    dsimp only
    split
    · rw [carry_length _ _ _ _ hfit h2, ih]
    · split
      · rw [carry_length _ _ _ _ hfit h2, ih]
      · exact ih
set_option maxRecDepth 100000 in
set_option maxHeartbeats 8000000 in
theorem rcrash_at {w : World} {Q : Nat → Prop} {a1 a2 : Option Addr} {n1 c1 n2 c2 : Nat} {D : DS} (h : RD w Q a1 a2 n1 c1 n2 c2 D) (hQ : ∀ i, w.heap.size ≤ i → Q i) (cnt am fl : Int) (dn : Bool) (ak : Option Addr) (nk ck : Nat) (ks : List Bool) (t : Int) (m : Nat) (hm : m < 256) (hks : ks.length = nk) (hnk : nk ≤ 9223372036854775807) (hrk : RdBl w ak ks) (hlim : n2 ≤ 1000000) :
    Calls Try.prog 31 #[.agg #[.slice a1 n1 c1, .slice a2 n2 c2, .int .i64 cnt, .bool dn, .int .i64 am, .int .i64 fl], .slice ak nk ck, .int .i64 t, .int .u8 (m : Int)] w fun r w' => ∃ g c, r = .returned (.agg #[.slice (some ⟨g, 0, none⟩) n1 c, .slice none 0 0, .int .i64 cnt, .bool false, .int .i64 (-1), .int .i64 (-1)]) ∧
      SafeAt w' Q (some ⟨g, 0, none⟩) n1 c (safeOf (D.crash ks t m)) ∧ Below w.heap.size w w' := by
  have B0 := ((Below.refl w.heap.size w).alloc (Nat.le_refl _) (.cells #[.slice a1 n1 c1, .slice a2 n2 c2, .int .i64 cnt, .bool dn, .int .i64 am, .int .i64 fl] 49)).alloc (by simp) (.cells #[.slice none 0 0, .slice none 0 0, .int .i64 0, .bool false, .int .i64 0, .int .i64 0] 49)
  have x0 := (Box.new w #[.slice a1 n1 c1, .slice a2 n2 c2, .int .i64 cnt, .bool dn, .int .i64 am, .int .i64 fl] 49).alloc (.cells #[.slice none 0 0, .slice none 0 0, .int .i64 0, .bool false, .int .i64 0, .int .i64 0] 49)
  have y0 := Box.new (w.alloc (.cells #[.slice a1 n1 c1, .slice a2 n2 c2, .int .i64 cnt, .bool dn, .int .i64 am, .int .i64 fl] 49)) #[.slice none 0 0, .slice none 0 0, .int .i64 0, .bool false, .int .i64 0, .int .i64 0] 49
  have sz : (w.alloc (.cells #[.slice a1 n1 c1, .slice a2 n2 c2, .int .i64 cnt, .bool dn, .int .i64 am, .int .i64 fl] 49)).heap.size = w.heap.size + 1 := by simp
  rw [sz] at y0
  clear sz
  obtain ⟨i0, hi, hz0, hz1, hz2⟩ := info_parts info27'
  have hn1 : 1 ≤ n1 ∧ n1 ≤ 512 := by have := h.ns; have := h.ok.hi; have := h.ok.lo; omega
  have H : Hid (RD w Q a1 a2 n1 c1 n2 c2 D) := h
  have HQ : Hid _ := hQ
  have He : Hid _ := h.ns
  have Hw : Hid _ := h.nw
  have Hks : Hid _ := hks
  have Hrk : Hid (RdBl w ak ks) := hrk
  obtain ⟨w2, hw2⟩ : ∃ w2, w2 = (w.alloc (.cells #[.slice a1 n1 c1, .slice a2 n2 c2, .int .i64 cnt, .bool dn, .int .i64 am, .int .i64 fl] 49)).alloc (.cells #[.slice none 0 0, .slice none 0 0, .int .i64 0, .bool false, .int .i64 0, .int .i64 0] 49) := ⟨_, rfl⟩
  rw [← hw2] at B0 x0 y0
  have R2 := h.below B0
  obtain ⟨gs, os, ea1, news, hl, hc, h1c, hj⟩ := R2.safe.cells
  subst ea1
  obtain ⟨p0, p1, p2, p3, p4, p5⟩ := x0.all6
  have Hw2 : Hid _ := hw2
  have Hj : Hid _ := hj
  have Hc : Hid _ := hc
  clear h hQ hks hrk hw2 R2 hj hc
  go_enter Try.func31, Try.ntmps31
  go_upto_region 2 with fail
  rw [← Hw2.out]
  go_wp2_with (at_builtin; refine wpList_append_own _ rfl _ _ 46 rfl w2.heap.size 27 i0 (.slice none 0 0) 1 24 Try.underlying46 hi hz0 hz1 hz2 rfl (by decide) (.slice none 0 0) 0 [] rfl (World.ownsRow_nil _ _ _ _) ⟨gs, os, none⟩ n1 c1 news rfl hl Hc.out h1c (by unfold maxLen; omega) (by omega) (Nat.le_refl _) ?_)
  rintro v3 w3 o3 gr3 hiff
  clear hiff
  have b23 : Below w2.heap.size w2 w3 := ⟨gr3.os, gr3.tape, gr3.output, gr3.size, fun q hq => gr3.block q hq (by simp [Value.ownBlock])⟩
  obtain ⟨g, c, rfl, C3⟩ := CRow.of_own (w0 := w) (d := D.dur) (Q := Q) o3 (by omega) B0.size (fun j hj => by
    obtain ⟨u, hu, hb⟩ := Hj.out j _ (safeOf_get D j (by rw [← He.out]; exact hj))
    exact ⟨u, hu, hb.move (fun i hi _ _ => b23.block i hi) (fun _ _ h => h)⟩)
  have x3 := x0.below b23
  have y3 := y0.below b23
  have B3 := B0.trans (b23.mono B0.size)
  clear p0 p1 p2 p3 p4 p5 x0 y0 B0 o3 gr3 b23 Hj Hc h1c hl
  go_wp2_with fail
  go_loopw [10] (fun i wr => ∃ k : Nat, k ≤ n2 ∧ i = .int .i64 k ∧ CRow w wr Q g n1 c (crashTo ks t m D.uf D.dur k) ∧ Box wr w.heap.size #[.slice (some ⟨gs, os, none⟩) n1 c1, .slice a2 n2 c2, .int .i64 cnt, .bool dn, .int .i64 am, .int .i64 fl] 49 ∧ Box wr (w.heap.size + 1) #[.slice none 0 0, .slice none 0 0, .int .i64 0, .bool false, .int .i64 0, .int .i64 0] 49 ∧ Below w.heap.size w wr) (fun i _ => n2 - (intOf i).toNat)
  case atStart => exact ⟨0, by omega, rfl, C3, x3, y3, B3⟩
  case round =>
    clear C3 x3 y3 B3
    obtain ⟨k, hk, rfl, C, x, y, B⟩ := hrel
    obtain ⟨p0, p1, p2, p3, p4, p5⟩ := x.all6
    by_cases hlt : k < n2
    · have hlt2 : (k : Int) < (n2 : Int) := by omega
      have hku : k < D.uf.length := by rw [← Hw.out]; exact hlt
      have R := RD.below H.out B
      obtain ⟨gw, ow, rfl, hqw, _, hcw⟩ := R.wr.2.2.2.2 (by omega)
      obtain ⟨ca, ub, cb, hbw⟩ := hcw k _ (List.getElem?_eq_getElem hku)
      obtain ⟨wp, wo, wc, rfl, hbw1⟩ := id hbw
      obtain ⟨hb1, hb2⟩ := R.ok.at k hku
      have hstep : Hid (crashTo ks t m D.uf D.dur (k + 1) = if (k : Int) = t then carry (crashTo ks t m D.uf D.dur k) D.uf[k].1 D.uf[k].2 m else if keeps ks k then carry (crashTo ks t m D.uf D.dur k) D.uf[k].1 D.uf[k].2 255 else crashTo ks t m D.uf D.dur k) := by
        show _ = _
        rw [crashTo, List.getElem?_eq_getElem hku]
      have hdl : (crashTo ks t m D.uf D.dur k).length = D.dur.length := (crash_len D R.ok ks t m k (by omega))
      have hfit : D.uf[k].1 * 4096 + 4096 ≤ (crashTo ks t m D.uf D.dur k).length := by rw [hdl]; exact R.ok.room hb1
      have hbn : D.uf[k].1 < n1 := by rw [He.out]; exact hb1
      generalize (D.uf[k]'hku).1 = bn at ca hstep hfit hbn
      generalize (D.uf[k]'hku).2 = dt at hbw hb2 hstep
      generalize crashTo ks t m D.uf D.dur k = cd at C hstep hfit
      have hnbn : (bn : Int) < (n1 : Int) := by omega
      have A1 := (Below.refl wr.heap.size wr).alloc (Nat.le_refl _) (.cells #[.int .i64 (bn : Int), .slice (some ⟨wp, wo, none⟩) 4096 wc] 57)
      have l1 := Box.new wr #[.int .i64 (bn : Int), .slice (some ⟨wp, wo, none⟩) 4096 wc] 57
      obtain ⟨gb, hgb⟩ : ∃ gb, gb = wr.heap.size := ⟨_, rfl⟩
      obtain ⟨w1, hw1⟩ : ∃ w1, w1 = wr.alloc (.cells #[.int .i64 (bn : Int), .slice (some ⟨wp, wo, none⟩) 4096 wc] 57) := ⟨_, rfl⟩
      rw [← hw1] at A1 l1
      rw [← hgb] at l1
      have C1 := C.below A1
      have x1 := x.below A1
      have y1 := y.below A1
      have B1 := B.trans (A1.mono B.size)
      have hb1w : BlkAt w1 Q (.slice (some ⟨wp, wo, none⟩) 4096 wc) dt := hbw.move (fun i hi _ _ => A1.block i hi) (fun _ _ h => h)
      have Hw1 : Hid _ := hw1
      have Hgb : Hid _ := hgb
      have HC : Hid (CRow w w1 Q g n1 c cd) := C1
      have Hx : Hid _ := x1
      have Hy : Hid _ := y1
      have HB : Hid _ := B1
      have Hd : Hid _ := hb1w
      have Hl : Hid _ := l1
      clear hw1 hgb C C1 x x1 y y1 B B1 hbw hb1w hbw1 hcw R A1 l1 hdl
      by_cases ht : (k : Int) = t
      · subst ht
        rw [if_pos rfl] at hstep
        obtain ⟨op, oo, oc, cg, hold⟩ := HC.out.cell bn hbn
        obtain ⟨_, ord, orl, _, _⟩ := hold.rd
        have cP := copyBytes_at oc 4096 (some ⟨op, oo, none⟩) (blk cd bn) w1 orl (by omega) ord (fun h => by cases h)
        have l0 := Box.cell Hl.out 0
        have l1 := Box.cell Hl.out 1
        simp only [List.getElem?_toArray, List.getElem?_cons_zero, List.getElem?_cons_succ] at l0 l1
        have Hdc : Hid (∀ j (h : j < dt.length), w1.cell? ⟨wp, wo + j, none⟩ = some (.int .u8 (dt[j].toNat : Int))) := by
          obtain ⟨_, _, _, e, _, _, _, _, _, hc⟩ := Hd.out
          cases e
          exact hc
        have hwc : 4096 ≤ wc := by
          obtain ⟨_, _, _, e, h, _⟩ := Hd.out
          cases e
          exact h
        obtain ⟨old, hold'⟩ : ∃ old, old = blk cd bn := ⟨_, rfl⟩
        rw [← hold'] at cP orl
        have Hold : Hid _ := hold'
        clear hold hold' ord
        go_upto_region 7 with fail
        rw [← Hw1.out, ← Hgb.out]
        clear p0 p1 p2 p3 p4 p5 ca cb
        go_wp2_with fail
        refine cP.mono ?_
        rintro r w2' ⟨vb, rfl, ob, b2⟩
        obtain ⟨gd, cd', rfl, hgd, rb⟩ := RowB.owns ob (by omega)
        have hcd : 4096 ≤ cd' ∧ cd' ≤ maxLen := by
          obtain ⟨_, _, h1, h2, _⟩ := rb
          exact ⟨by omega, h2⟩
        have l0' := (b2.cell (p := ⟨gb, 0, none⟩) (Box.lt Hl.out)).trans l0
        have l1' := (b2.cell (p := ⟨gb, 1, none⟩) (Box.lt Hl.out)).trans l1
        have Hbl : Hid _ := Box.lt Hl.out
        clear cP ob l0 l1 cg
        go_wp2_with fail
        go_loopw [13] (fun i wq => ∃ q : Nat, q ≤ 4096 ∧ i = .int .i64 q ∧ RowB wq gd cd' (torn old dt m q) ∧ Below w1.heap.size w1 wq) (fun i _ => 4096 - (intOf i).toNat)
        case atStart => exact ⟨0, by omega, rfl, rb, b2⟩
        case round =>
          clear rb b2 l0' l1'
          obtain ⟨q, hq, rfl, rq, bq⟩ := hrel
          have l0 := (bq.cell (p := ⟨gb, 0, none⟩) Hbl.out).trans (by simpa using Box.cell Hl.out 0)
          have l1 := (bq.cell (p := ⟨gb, 1, none⟩) Hbl.out).trans (by simpa using Box.cell Hl.out 1)
          by_cases hq4 : q < 4096
          · have hq2 : (q : Int) < 4096 := by omega
            have htl : (torn old dt m q).length = 4096 := by rw [torn_length]; exact orl
            have hs8 : q / 512 < 8 := by omega
            have hbitq : (bits .and .u8 (m : Int) ((2 : Int) ^ (q / 512) % 256) != 0) = bit m (q / 512) := by rw [bne, and_pow8 m (q / 512) hm hs8, Bool.not_not]
            have hdl2 : q < dt.length := by omega
            have cd0 := Hdc.out q hdl2
            have cdq : wr.cell? ⟨wp, wo + q, none⟩ = some (.int .u8 (dt[q].toNat : Int)) := (bq.cell (p := ⟨wp, wo + q, none⟩) (block_lt_of_cell cd0)).trans cd0
            have hset : Hid (torn old dt m (q + 1) = if bit m (q / 512) then (torn old dt m q).set q (dt[q]'hdl2) else torn old dt m q) := by
              show _ = _
              rw [torn]
              simp [List.getD, List.getElem?_eq_getElem hdl2]
            generalize (dt[q]'hdl2) = y8 at cdq hset
            clear cd0
            have cbq : ∃ v, wr.cell? ⟨gd, q, none⟩ = some v := by
              obtain ⟨cur, hb5, h1, h2, h3, _⟩ := rq
              exact ⟨cur[q]'(by omega), by rw [hb5.cell q, Array.getElem?_eq_getElem]⟩
            obtain ⟨vq, cbq⟩ := cbq
            have fbq : wr.frozen? ⟨gd, q, none⟩ = false := by
              obtain ⟨cur, hb5, _⟩ := rq
              exact hb5.frozen q
            have rq2 := rq.set q y8
            have bq2 := bq.setCell (p := ⟨gd, q, none⟩) hgd (.int .u8 (y8.toNat : Int))
            have Hrq : Hid _ := rq
            have Hbq : Hid _ := bq
            have Hrq2 : Hid _ := rq2
            have Hbq2 : Hid _ := bq2
            clear rq bq rq2 bq2
            cases hbt : bit m (q / 512) with
            | true =>
              rw [hbt] at hbitq
              rw [hbt, if_pos rfl] at hset
              go_wp2_with fail
              go_roundw
              case rel => exact ⟨q + 1, by omega, by go_num, by rw [hset.out]; exact Hrq2.out, Hbq2.out⟩
              case measure => simp [intOf]; omega
            | false =>
              rw [hbt] at hbitq
              rw [hbt, if_neg (by simp)] at hset
              go_wp2_with fail
              go_roundw
              case rel => exact ⟨q + 1, by omega, by go_num, by rw [hset.out]; exact Hrq.out, Hbq.out⟩
              case measure => simp [intOf]; omega
          · have hq4' : q = 4096 := by omega
            subst hq4'
            have hbe : torn old dt m 4096 = blk (carry cd bn dt m) bn := by rw [Hold.out]; exact torn_carry cd bn dt m hfit hb2
            rw [hbe] at rq
            have hbl := blk_length (carry cd bn dt m) bn (by rw [carry_length _ _ _ _ hfit hb2]; exact hfit)
            have hbA : BlkAt wr Q (.slice (some ⟨gd, 0, none⟩) 4096 cd') (blk (carry cd bn dt m) bn) := BlkAt.of_row rq hbl (HQ.out gd (Nat.le_trans HB.out.size hgd))
            have C2 := HC.out.below bq
            have C3 := C2.put (d' := carry cd bn dt m) bn hbn (.slice (some ⟨gd, 0, none⟩) 4096 cd') hbA (fun j _ hj => blk_carry_other _ _ _ _ _ hfit hb2 hj)
            obtain ⟨op', oo', oc', cg', _⟩ := C2.cell bn hbn
            have fg := C2.frozen bn
            have hgne : g ≠ w.heap.size ∧ g ≠ w.heap.size + 1 := by
              obtain ⟨cur, hg27, _⟩ := HC.out.box
              exact ⟨hg27.ne Hx.out (by decide), hg27.ne Hy.out (by decide)⟩
            have x2 := Box.away (j := bn) (v := .slice (some ⟨gd, 0, none⟩) 4096 cd') (Box.below Hx.out bq) (fun e => hgne.1 e.symm)
            have y2 := Box.away (j := bn) (v := .slice (some ⟨gd, 0, none⟩) 4096 cd') (Box.below Hy.out bq) (fun e => hgne.2 e.symm)
            have B2 := (HB.out.trans (bq.mono HB.out.size)).setCell (p := ⟨g, bn, none⟩) C2.base (.slice (some ⟨gd, 0, none⟩) 4096 cd')
            clear rq bq hbA C2 hbe
            go_wp2_with fail
            go_roundw
            case rel => exact ⟨k + 1, by omega, by go_num, by rw [hstep.out]; exact C3, x2, y2, B2⟩
            case measure => simp [intOf]; omega
      · rw [if_neg ht] at hstep
        have ht' : ((k : Int) == t) = false := by simpa using ht
        cases hkp : keeps ks k with
        | true =>
          rw [hkp, if_pos rfl] at hstep
          have hkn : k < nk := by
            unfold keeps at hkp
            rcases Nat.lt_or_ge k ks.length with q | q
            · rw [← Hks.out]; exact q
            · rw [List.getElem?_eq_none q] at hkp; cases hkp
          have hkk : ks[k]'(by rw [Hks.out]; exact hkn) = true := by
            unfold keeps at hkp
            rw [List.getElem?_eq_getElem (by rw [Hks.out]; exact hkn)] at hkp
            simpa using hkp
          have hkn2 : (k : Int) < (nk : Int) := by omega
          obtain ⟨bk, ok, rfl, hck⟩ := Hrk.out (by rw [Hks.out]; omega)
          have cK0 := hck k (by rw [Hks.out]; exact hkn)
          rw [hkk] at cK0
          have cK : w1.cell? ⟨bk, ok + k, none⟩ = some (.bool true) := by rw [HB.out.cell (p := ⟨bk, ok + k, none⟩) (block_lt_of_cell cK0)]; exact cK0
          clear cK0 hck hkk hkp
          obtain ⟨op, oo, oc, cg, _⟩ := HC.out.cell bn hbn
          have fg := HC.out.frozen bn
          have C2 := HC.out.put (d' := carry cd bn dt 255) bn hbn (.slice (some ⟨wp, wo, none⟩) 4096 wc) (by rw [blk_carry_all _ _ _ hfit hb2]; exact Hd.out) (fun j _ hj => blk_carry_other _ _ _ _ _ hfit hb2 hj)
          have hgne : g ≠ w.heap.size ∧ g ≠ w.heap.size + 1 := by
            obtain ⟨cur, hg27, _⟩ := HC.out.box
            exact ⟨hg27.ne Hx.out (by decide), hg27.ne Hy.out (by decide)⟩
          have x2 := Box.away (j := bn) (v := .slice (some ⟨wp, wo, none⟩) 4096 wc) Hx.out (fun e => hgne.1 e.symm)
          have y2 := Box.away (j := bn) (v := .slice (some ⟨wp, wo, none⟩) 4096 wc) Hy.out (fun e => hgne.2 e.symm)
          have B2 := HB.out.setCell (p := ⟨g, bn, none⟩) HC.out.base (.slice (some ⟨wp, wo, none⟩) 4096 wc)
          have l0 := Box.cell Hl.out 0
          have l1 := Box.cell Hl.out 1
          simp only [List.getElem?_toArray, List.getElem?_cons_zero, List.getElem?_cons_succ] at l0 l1
          go_upto_region 7 with fail
          rw [← Hw1.out, ← Hgb.out]
          clear p0 p1 p2 p3 p4 p5 ca cb
          go_wp2_with fail
          go_roundw
          case rel => exact ⟨k + 1, by omega, by go_num, by rw [hstep.out]; exact C2, x2, y2, B2⟩
          case measure => simp [intOf]; omega
        | false =>
          rw [hkp, if_neg (by simp)] at hstep
          by_cases hkn : k < nk
          · have hkk : ks[k]'(by rw [Hks.out]; exact hkn) = false := by
              unfold keeps at hkp
              rw [List.getElem?_eq_getElem (by rw [Hks.out]; exact hkn)] at hkp
              simpa using hkp
            have hkn2 : (k : Int) < (nk : Int) := by omega
            obtain ⟨bk, ok, rfl, hck⟩ := Hrk.out (by rw [Hks.out]; omega)
            have cK0 := hck k (by rw [Hks.out]; exact hkn)
            rw [hkk] at cK0
            have cK : w1.cell? ⟨bk, ok + k, none⟩ = some (.bool false) := by rw [HB.out.cell (p := ⟨bk, ok + k, none⟩) (block_lt_of_cell cK0)]; exact cK0
            clear cK0 hck hkk hkp
            go_upto_region 7 with fail
            rw [← Hw1.out, ← Hgb.out]
            clear p0 p1 p2 p3 p4 p5 ca cb
            go_wp2_with fail
            go_roundw
            case rel => exact ⟨k + 1, by omega, by go_num, by rw [hstep.out]; exact HC.out, Hx.out, Hy.out, HB.out⟩
            case measure => simp [intOf]; omega
          · have hkn2 : ¬ (k : Int) < (nk : Int) := by omega
            go_upto_region 7 with fail
            rw [← Hw1.out, ← Hgb.out]
            clear p0 p1 p2 p3 p4 p5 ca cb
            go_wp2_with fail
            go_roundw
            case rel => exact ⟨k + 1, by omega, by go_num, by rw [hstep.out]; exact HC.out, Hx.out, Hy.out, HB.out⟩
            case measure => simp [intOf]; omega
    · have hkn : k = n2 := by omega
      rw [hkn] at C
      have HC : Hid (CRow w wr Q g n1 c (crashTo ks t m D.uf D.dur n2)) := C
      have HB : Hid _ := B
      clear C B
      obtain ⟨q0, q1, q2, q3, q4, q5⟩ := y.all6
      obtain ⟨g0, g1, g2, g3, g4, g5⟩ := y.fr6
      go_wp2_with fail
      have k9 := ((((((O49.refl wr).set (j := 0) (v := .slice (some ⟨g, 0, none⟩) n1 c) y).set (j := 1) (v := .slice none 0 0) (y.store 0 _)).set (j := 2) (v := .int .i64 cnt) ((y.store 0 _).store 1 _)).set (j := 3) (v := .bool false) (((y.store 0 _).store 1 _).store 2 _)).set (j := 4) (v := .int .i64 (-1)) ((((y.store 0 _).store 1 _).store 2 _).store 3 _)).set (j := 5) (v := .int .i64 (-1)) (((((y.store 0 _).store 1 _).store 2 _).store 3 _).store 4 _)
      refine bodyPost_ret (v := .agg #[.slice (some ⟨g, 0, none⟩) n1 c, .slice none 0 0, .int .i64 cnt, .bool false, .int .i64 (-1), .int .i64 (-1)]) ?_ rfl ⟨g, c, rfl, SafeAt.move (HC.out.safe (bs := safeOf (D.crash ks t m)) (by rw [safeOf_length, He.out]; rfl) (fun j hj => by
        rw [safeOf_get _ j (by show j < D.nb; rw [← He.out]; exact hj), Hw.out]
        rfl) HQ.out) (fun i _ _ ⟨cur, t, hi, ht⟩ => (k9 i cur t hi ht).trans hi.symm) (fun _ _ h => h), ?_⟩
      · simp [results, Try.results31, go_sem, q0, q1, q2, q3, q4, q5]
      · repeat (refine Below.setCell ?_ (by simp) _)
        exact HB.out
end Go.Proofs.Ytagnmmapnpcijaa
