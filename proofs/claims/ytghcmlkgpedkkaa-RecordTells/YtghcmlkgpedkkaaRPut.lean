/-
  The document's own Put, of any group.
-/
import Derived.Test.YtghcmlkgpedkkaaRHead
import Derived.Test.YtghcmlkgpedkkaaOver
namespace Go.Proofs.Ytghcmlkgpedkkaa
open Go.RowKit

/-- the first k bytes have the stamp where it belongs -/
structure StK (M xs : List UInt8) (k : Nat) (Y : List UInt8) : Prop where
  len : Y.length = 4096
  at_ : ∀ i, i < 4096 → Y[i]? = if i < k ∧ i % 512 < 8 then M[i % 512]? else xs[i]?
theorem StK.start {M xs : List UInt8} (h : xs.length = 4096) : StK M xs 0 xs := ⟨h, fun i _ => by rw [if_neg (by omega)]⟩
theorem StK.skip {M xs Y : List UInt8} {k : Nat} (h : StK M xs k Y) (hk : ¬ k % 512 < 8) : StK M xs (k + 1) Y := ⟨h.len, fun i hi => by
  rw [h.at_ i hi]
  by_cases e : i = k
  · subst e
    rw [if_neg (by omega), if_neg (by omega)]
  · by_cases q : i < k ∧ i % 512 < 8
    · rw [if_pos q, if_pos (by omega)]
    · rw [if_neg q, if_neg (by omega)]⟩
theorem StK.put {M xs Y : List UInt8} {k : Nat} (h : StK M xs k Y) (hk : k < 4096) (h8 : k % 512 < 8) (v : UInt8) (hv : M[k % 512]? = some v) : StK M xs (k + 1) (Y.set k v) := ⟨by simpa using h.len, fun i hi => by
  rw [List.getElem?_set]
  by_cases e : k = i
  · subst e
    rw [if_pos rfl, if_pos (by rw [h.len]; exact hk), if_pos ⟨by omega, h8⟩, hv]
  · rw [if_neg e, h.at_ i hi]
    by_cases q : i < k ∧ i % 512 < 8
    · rw [if_pos q, if_pos (by omega)]
    · rw [if_neg q, if_neg (by omega)]⟩
theorem StK.done {M xs Y : List UInt8} (h : StK M xs 4096 Y) (hx : xs.length = 4096) (hM : M.length = 8) : Y = stB M xs := by
  refine List.ext_getElem? (fun i => ?_)
  by_cases hi : i < 4096
  · rw [h.at_ i hi]
    have hs := sec_st M xs hx hM ⟨i / 512, by omega⟩
    have g1 : (sec (stB M xs) (i / 512))[i % 512]? = (stB M xs)[i]? := by
      rw [sec_get, if_pos (by omega), show i / 512 * 512 + i % 512 = i by omega]
    have hs' : sec (stB M xs) (i / 512) = M ++ (sec xs (i / 512)).drop 8 := hs
    rw [← g1, hs']
    by_cases q : i % 512 < 8
    · rw [if_pos ⟨hi, q⟩, List.getElem?_append_left (by omega)]
    · rw [if_neg (by omega), List.getElem?_append_right (by omega), hM, List.getElem?_drop, sec_get, if_pos (by omega), show i / 512 * 512 + (8 + (i % 512 - 8)) = i by omega]
  · rw [List.getElem?_eq_none (by rw [h.len]; omega), List.getElem?_eq_none (by rw [stB_length M xs hx hM]; omega)]

theorem owns_one {w : World} {B g : Nat} {v : Value} (hb : Box w g #[v] 31) (hB : B ≤ g) : w.ownsRow B 31 1 (.slice (some ⟨g, 0, none⟩) 1 1) 1 [v] :=
  ⟨rfl, .inr ⟨g, 1, #[v], rfl, hB, hb, Nat.le_refl _, by unfold maxLen; decide, rfl, rfl⟩⟩
theorem putL_take (e s : Nat) (is : List (Int × List UInt8)) (k : Nat) (h : k < is.length) : (putL e s is).take (k + 1 + 1) = (putL e s is).take (k + 1) ++ [stB (mark e s) (is[k]).2] := by
  rw [List.take_succ_eq_append_getElem (by rw [putL_length]; omega)]
  simp [putL]

set_option maxRecDepth 100000 in
set_option maxHeartbeats 4000000 in
theorem rputG_any (e s : Int) (a : Option Addr) (n cap : Nat) (is : List (Int × List UInt8)) (w : World) (hl : is.length = n) (hI : Imgs w a is) :
    Calls Try.prog 20 #[.agg #[.int .i64 e, .int .i64 s, .slice a n cap]] w (PutR w e s is n) := by
  obtain ⟨j0, ji, jz0, jz1, jz2⟩ := info_parts info31
  have x1 := Box.new w #[.int .i64 e, .int .i64 s, .slice a n cap] 28
  have B1 := (Below.refl w.heap.size w).alloc (Nat.le_refl _) (.cells #[.int .i64 e, .int .i64 s, .slice a n cap] 28)
  have cR := rright_at e s a n cap is _ hl (hI.below B1)
  have HL : Hid (is.length = n) := hl
  have HI : Hid (Imgs w a is) := hI
  clear hl hI
  go_enter Try.func20, Try.ntmps20
  go_wp2_with fail
  refine cR.mono ?_
  rintro r w1 ⟨q, rfl, hq, b1⟩
  clear cR
  replace x1 := x1.below b1
  replace B1 := B1.trans (b1.mono B1.size)
  clear b1
  cases q with
  | false =>
    have hno : Hid (¬ okGroup e s is) := fun h => (by have := hq.2 h; cases this)
    clear hq
    go_wp2_with fail
    go_ret2
    exact .inr ⟨hno.out, rfl, B1⟩
  | true =>
    have hok := hq.1 rfl
    clear hq
    have hst := (okStamp_iff _ _).1 hok.1.1
    obtain ⟨E, rfl⟩ : ∃ E : Nat, e = (E : Int) := ⟨e.toNat, by omega⟩
    obtain ⟨S, rfl⟩ : ∃ S : Nat, s = (S : Int) := ⟨s.toNat, by omega⟩
    have hE : E ≤ 8388608 := by omega
    have hS : S ≤ 549755813888 := by omega
    obtain ⟨h1, h32⟩ := is_length hok
    rw [HL.out] at h1 h32
    have HOK : Hid (okGroup E S is) := hok
    clear hst hok
    have z0 := x1.cell 0
    have z1 := x1.cell 1
    have z2 := x1.cell 2
    have cH := rhead_at E S a n cap is w1 HL.out (HI.out.below B1) HOK.out
    go_wp2_with fail
    refine cH.mono ?_
    rintro r w2 ⟨v2, rfl, own2, b2⟩
    clear cH z0 z1 z2
    obtain ⟨gh, ch, rfl, lgh, rowh⟩ := RowB.owns own2 (by omega)
    have x2 := x1.below b2
    have B2 := B1.trans (b2.mono B1.size)
    have ba := (Below.refl w2.heap.size w2).alloc (Nat.le_refl _) (.cells #[.slice (some ⟨gh, 0, none⟩) 4096 ch] 31)
    have xo := Box.new w2 #[.slice (some ⟨gh, 0, none⟩) 4096 ch] 31
    have x3 := x2.below ba
    have B3 := B2.trans (ba.mono B2.size)
    have own3 : Hid ((w2.alloc (.cells #[.slice (some ⟨gh, 0, none⟩) 4096 ch] 31)).ownsRow w.heap.size 31 1 (.slice (some ⟨w2.heap.size, 0, none⟩) 1 1) (0 + 1) (lstC [⟨0, headB E S (entL (mark E S) is), gh, ch⟩])) := owns_one xo B2.size
    have hd4 : (headB E S (entL (mark E S) is)).length = 4096 := headB_length (bodyB_length _ (entL_len HOK.out) (by rw [entL_length]; exact (is_length HOK.out).2))
    have J3 : Hid (GetJ w.heap.size (w2.alloc (.cells #[.slice (some ⟨gh, 0, none⟩) 4096 ch] 31)) [⟨0, headB E S (entL (mark E S) is), gh, ch⟩]) := ⟨fun p hp => by
      rw [List.mem_singleton.1 hp]
      exact ⟨rowh.same (ba.block _ rowh.lt), Nat.le_trans B1.size lgh, hd4⟩, List.nodup_cons.2 ⟨List.not_mem_nil, List.nodup_nil⟩⟩
    clear x1 x2 B1 B2 own2 xo ba rowh lgh b2 hd4
    go_wp2_with fail
    go_loopw [4, 5] (fun v i u => ∃ (k : Nat) (qs : List GG), k ≤ n ∧ i = .int .i64 (k : Int) ∧ u.ownsRow w.heap.size 31 1 v (k + 1) (lstC qs) ∧ GetJ w.heap.size u qs ∧ qs.map GG.xs = (putL E S is).take (k + 1) ∧ Box u w.heap.size #[.int .i64 (E : Int), .int .i64 (S : Int), .slice a n cap] 28 ∧ Below w.heap.size w u) (fun _ i _ => n - (intOf i).toNat)
    case atStart => exact ⟨0, _, Nat.zero_le _, rfl, own3.out, J3.out, rfl, x3, B3⟩
    case round =>
      clear own3 J3 x3 B3
      obtain ⟨W, rfl⟩ : ∃ W, W = wr := ⟨_, rfl⟩
      obtain ⟨k, qs, hk, rfl, own, hJ, hqs, x1, B1⟩ := hrel
      obtain ⟨av, cv, rfl⟩ := owns_shape own
      have HQ : Hid (qs.map GG.xs = (putL E S is).take (k + 1)) := hqs
      have HJ : Hid (GetJ w.heap.size W qs) := hJ
      have HO : Hid (W.ownsRow w.heap.size 31 1 (.slice av (k + 1) cv) (k + 1) (lstC qs)) := own
      have HX : Hid (Box W w.heap.size #[.int .i64 (E : Int), .int .i64 (S : Int), .slice a n cap] 28) := x1
      clear hqs hJ own
      have c2 := x1.cell 2
      by_cases hlt : k < n
      · have k1 : k < is.length := by rw [HL.out]; exact hlt
        obtain ⟨b, o, rfl, hc⟩ := HI.out (by omega)
        obtain ⟨g0, x, cx, g1, g2, g3, g4, g5⟩ := hc k k1
        have lb : b < w.heap.size := block_lt_of_cell g1
        obtain ⟨_, _, q4⟩ := ok_at HOK.out k k1
        have hstep : Hid ((putL E S is).take (k + 1 + 1) = (putL E S is).take (k + 1) ++ [stB (mark E S) (is[k]'k1).2]) := putL_take E S is k k1
        generalize (is[k]'k1) = X at g0 g1 g2 g5 q4 hstep
        obtain ⟨bx, xs⟩ := X
        dsimp only at g1 g2 g5 q4 hstep
        rw [q4] at g1 g2
        rw [← B1.cell (p := ⟨b, o + k * 2 + 1, none⟩) lb] at g1
        have cC := copyBytes_at cx 4096 x xs W q4 (by omega) (g5.below B1 (Nat.le_refl _)) g4
        have HX4 : Hid (xs.length = 4096) := q4
        clear hc g0 g2 g3 g4 g5 q4
        go_wp2_with fail
        refine cC.mono ?_
        rintro r w5 ⟨v5, rfl, own5, b5⟩
        clear cC g1 c2
        obtain ⟨gx, cp, rfl, lgx, hrow⟩ := RowB.owns own5 (by omega)
        go_wp2_with fail
        go_loopw [7] (fun i u => ∃ (t : Nat) (Y : List UInt8), t ≤ 4096 ∧ i = .int .i64 (t : Int) ∧ StK (mark E S) xs t Y ∧ RowB u gx cp Y ∧ Below W.heap.size W u) (fun i _ => 4096 - (intOf i).toNat)
        case atStart => exact ⟨0, xs, by omega, rfl, StK.start HX4.out, hrow, b5⟩
        case round =>
          clear hrow b5 own5
          obtain ⟨t, Y, ht, rfl, hY, hrow, bB⟩ := hrel
          by_cases htl : t < 4096
          · have hti : (t : Int) < 4096 := by omega
            by_cases h8 : t % 512 < 8
            · obtain ⟨j, hj⟩ : ∃ j : Nat, (t : Int) % 512 = (j : Int) := ⟨t % 512, by omega⟩
              have hjt : Hid (j = t % 512) := by show j = t % 512; omega
              have hj8 : (j : Int) < 8 := by omega
              have x2 := HX.out.below bB
              have z0 := x2.cell 0
              have z1 := x2.cell 1
              have z2 := x2.cell 2
              have cS := rstamp_at E S (.slice (some ⟨b, o, none⟩) n cap) wr hE hS
              clear h8
              go_wp2_with fail
              refine cS.mono ?_
              rintro r w6 ⟨gs, cs, rfl, lgs, rows, b6⟩
              clear cS z0 z1 z2
              have hm8 := mark_length E S
              obtain ⟨cj, _⟩ := rows.cellAt (j := j) (by omega)
              have row6 := hrow.same (b6.block _ hrow.lt)
              obtain ⟨ct, ft⟩ := row6.cellAt (j := t) (by rw [hY.len]; exact htl)
              have B6 := bB.trans (b6.mono bB.size)
              have hv : Hid ((mark E S)[t % 512]? = some ((mark E S)[j]'(by omega))) := by
                show _ = _
                rw [← hjt.out]
                exact List.getElem?_eq_getElem (by omega)
              generalize ((mark E S)[j]'(by omega)) = mv at cj hv
              have hcs : 8 ≤ cs := by
                obtain ⟨cur, _, h1, _⟩ := rows
                rw [hm8] at h1
                exact h1
              have row7 : Hid (RowB (w6.setCell ⟨gx, t, none⟩ (.int .u8 (mv.toNat : Int))) gx cp (Y.set t mv)) := row6.byte t (by rw [hY.len]; exact htl) mv
              have HY : Hid (StK (mark E S) xs (t + 1) (Y.set t mv)) := hY.put htl (by have := hjt.out; omega) mv hv.out
              have B7 : Hid (Below W.heap.size W (w6.setCell ⟨gx, t, none⟩ (.int .u8 (mv.toNat : Int)))) := B6.setCell (p := ⟨gx, t, none⟩) lgx _
              generalize ((Y[t]'(by rw [hY.len]; exact htl)).toNat : Int) = cz at ct
              have hj0 : (0 : Int) ≤ (j : Int) := by omega
              clear hrow row6 hY bB b6 B6 rows x2 lgs hm8
              go_wp2_with fail
              go_roundw
              case rel => exact ⟨t + 1, _, by omega, by push_cast; rfl, HY.out, row7.out, B7.out⟩
              case measure => simp [intOf]; omega
            · have hi8 : ¬ (t : Int) % 512 < 8 := by omega
              have HY : Hid (StK (mark E S) xs (t + 1) Y) := hY.skip h8
              clear h8 hY
              go_wp2_with fail
              go_roundw
              case rel => exact ⟨t + 1, Y, by omega, by push_cast; rfl, HY.out, hrow, bB⟩
              case measure => simp [intOf]; omega
          · have ht2 : t = 4096 := by omega
            rw [ht2] at hY ⊢
            clear ht2 htl ht
            have hYe := hY.done HX4.out (mark_length _ _)
            have hY4 := hY.len
            rw [hYe] at hrow hY4
            clear hYe hY
            obtain ⟨st, hst⟩ : ∃ st, st = stB (mark E S) xs := ⟨_, rfl⟩
            rw [← hst] at hrow hY4 hstep
            clear hst
            have J2 : GetJ w.heap.size wr (qs ++ [⟨0, st, gx, cp⟩]) := HJ.out.snoc bB ⟨0, st, gx, cp⟩ hrow lgx hY4 B1.size
            have own1 := owns_below HO.out bB
            have x2 := HX.out.below bB
            have B2 := B1.trans (bB.mono B1.size)
            have al := (Below.refl wr.heap.size wr).alloc (Nat.le_refl _) (.cells #[.slice (some ⟨gx, 0, none⟩) 4096 cp] 31)
            have bN := Box.new wr #[.slice (some ⟨gx, 0, none⟩) 4096 cp] 31
            replace own1 := owns_below own1 al
            replace J2 := J2.below al
            replace x2 := x2.below al
            replace B2 := B2.trans (al.mono B2.size)
            have hcN : ∀ j u, ([.slice (some ⟨gx, 0, none⟩) 4096 cp] : List Value)[j]? = some u → (wr.alloc (.cells #[.slice (some ⟨gx, 0, none⟩) 4096 cp] 31)).cell? ((⟨wr.heap.size, 0, none⟩ : Addr).add j) = some u := fun j u hj => by
              rw [Addr.add_lit, Nat.zero_add, bN.cell j]
              simpa using hj
            clear hrow bB HJ HO HX
            go_wp2_with (at_builtin; refine wpList_append_own _ rfl _ _ 22 rfl w.heap.size 31 j0 (.slice none 0 0) 1 24 Try.underlying22 ji jz0 jz1 jz2 rfl (by decide) _ (k + 1) _ rfl own1 ⟨wr.heap.size, 0, none⟩ 1 1 [.slice (some ⟨gx, 0, none⟩) 4096 cp] rfl rfl hcN ?c2 ?c3 ?c4 B2.size ?_)
            case c2 => intro u hu; simp at hu; subst hu; rfl
            case c3 => unfold maxLen; omega
            case c4 => omega
            intro v' w4 own4 hg4 _
            have J4 := J2.grown own1 (by decide) hg4
            have B4 := B2.grown hg4 B2.size (fun j e => (owns_block own1 j e).1)
            have x4 : Box w4 w.heap.size #[.int .i64 (E : Int), .int .i64 (S : Int), .slice (some ⟨b, o, none⟩) n cap] 28 := (hg4.block _ x2.lt (fun e => by
              obtain ⟨_, cur, hb⟩ := owns_block own1 _ e.symm
              exact Box.ne hb x2 (by decide) rfl)).trans x2
            have own5 : w4.ownsRow w.heap.size 31 1 v' (k + 1 + 1) (lstC (qs ++ [⟨0, st, gx, cp⟩])) := by
              have e : lstC (qs ++ [⟨0, st, gx, cp⟩]) = lstC qs ++ [.slice (some ⟨gx, 0, none⟩) 4096 cp] := by simp [lstC]
              rw [e]
              exact own4
            clear own1 J2 B2 bN al hcN hg4 own4 x2
            go_wp2_with fail
            go_roundw
            case rel => exact ⟨k + 1, _, by omega, by push_cast; rfl, own5, J4, by rw [List.map_append, HQ.out, hstep.out]; rfl, x4, B4⟩
            case measure => simp [intOf]; omega
      · have hke : k = n := by omega
        have hql : qs.length = k + 1 := by
          have := congrArg List.length HQ.out
          rw [List.length_map, List.length_take, putL_length, HL.out] at this
          omega
        have hL := lsts_of HO.out HJ.out hql
        rw [HQ.out, List.take_of_length_le (by rw [putL_length, HL.out]; omega)] at hL
        obtain ⟨gv, hgv, _⟩ := owns_cells HO.out (by omega)
        subst hgv
        rw [hke]
        clear hke hlt hk
        go_wp2_with fail
        go_ret2
        exact .inl ⟨E, S, rfl, rfl, HOK.out, gv, cv, rfl, hL, B1⟩
end Go.Proofs.Ytghcmlkgpedkkaa
