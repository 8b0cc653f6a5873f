/-
  The document's own stamp and head, of right groups.
-/
import Derived.Test.YtghcmlkgpedkkaaRRight
import Derived.Test.YtghcmlkgpedkkaaRMore
import Derived.Test.YtghcmlkgpedkkaaCopyI
namespace Go.Proofs.Ytghcmlkgpedkkaa
open Go.RowKit

set_option maxRecDepth 100000 in
theorem rstamp_at (E S : Nat) (v2 : Value) (w : World) (he : E ≤ 8388608) (hs : S ≤ 549755813888) :
    Calls Try.prog 44 #[.agg #[.int .i64 (E : Int), .int .i64 (S : Int), v2]] w fun r w' => ∃ g c, r = .returned (.slice (some ⟨g, 0, none⟩) 8 c) ∧ w.heap.size ≤ g ∧ RowB w' g c (mark E S) ∧ Below w.heap.size w w' := by
  have B1 := (Below.refl w.heap.size w).alloc (Nat.le_refl _) (.cells #[.int .i64 (E : Int), .int .i64 (S : Int), v2] 28)
  have cA := refAdd_at 0 0 8 none [] (stampN E S) ((E : Int) * 1099511627776 + (S : Int)) 8 (w.alloc (.cells #[.int .i64 (E : Int), .int .i64 (S : Int), v2] 28)) (by unfold stampN; omega) rfl rfl (by unfold stampN; omega) (by omega) (by omega) (by omega) (Rd.nil _ _) (fun _ => rfl)
  have w1 : IntKind.u64.wrap (E : Int) = (E : Int) := by rw [IntKind.wrap_u64]; omega
  have w2 : IntKind.u64.wrap (S : Int) = (S : Int) := by rw [IntKind.wrap_u64]; omega
  go_enter Try.func44, Try.ntmps44
  go_wp2_with fail
  refine cA.mono ?_
  rintro r w3 ⟨v, rfl, hv3, b3⟩
  obtain ⟨g, c, rfl, hg, hrow⟩ := RowB.owns hv3 (by omega)
  go_wp2_with fail
  go_ret
  exact ⟨g, c, rfl, Nat.le_trans B1.size hg, hrow, B1.trans (b3.mono B1.size)⟩
def lenOf : Value → Nat
  | .slice _ n _ => n
  | _ => 0
/-- the images' first k, as the head says them -/
theorem entL_take_succ (M : List UInt8) (is : List (Int × List UInt8)) (k : Nat) (h : k < is.length) : entsB (entL M (is.take (k + 1))) = entsB (entL M (is.take k)) ++ (toBE 2 (is[k]).1.toNat ++ hdB M (is[k]).2) := by
  unfold entL entsB
  rw [List.take_succ_eq_append_getElem h, List.map_append, List.flatMap_append]
  simp
theorem take8_part (d : List UInt8) (t : Nat) : (d.drop (t * 512)).take 8 = (sec d t).take 8 := by
  unfold sec
  rw [List.take_take]
  rfl

set_option maxRecDepth 100000 in
set_option maxHeartbeats 4000000 in
theorem rhead_at (E S : Nat) (a : Option Addr) (n cap : Nat) (is : List (Int × List UInt8)) (w : World) (hl : is.length = n) (hI : Imgs w a is) (hok : okGroup E S is) :
    Calls Try.prog 43 #[.agg #[.int .i64 (E : Int), .int .i64 (S : Int), .slice a n cap]] w fun r w' => ∃ v, r = .returned v ∧ w'.ownsRow w.heap.size 5 1 v 4096 (bcs (headB E S (entL (mark E S) is))) ∧ Below w.heap.size w w' := by
  obtain ⟨i0, hi, hz0, hz1, hz2⟩ := info_parts info5
  have x1 := Box.new w #[.int .i64 (E : Int), .int .i64 (S : Int), .slice a n cap] 28
  have B1 := (Below.refl w.heap.size w).alloc (Nat.le_refl _) (.cells #[.int .i64 (E : Int), .int .i64 (S : Int), .slice a n cap] 28)
  have HL : Hid (is.length = n) := hl
  have HI : Hid (Imgs w a is) := hI
  have HOK : Hid (okGroup E S is) := hok
  obtain ⟨h1, h32⟩ := is_length hok
  rw [hl] at h1 h32
  have hst := (okStamp_iff _ _).1 hok.1.1
  have hE : E ≤ 8388608 := by omega
  have hS : S ≤ 549755813888 := by omega
  clear hl hI hok hst
  go_enter Try.func43, Try.ntmps43
  go_wp2_with fail
  go_loopw [3, 4] (fun v i u => ∃ k : Nat, k ≤ n ∧ i = .int .i64 (k : Int) ∧ u.ownsRow w.heap.size 5 1 v (k * 66) (bcs (entsB (entL (mark E S) (is.take k)))) ∧ Box u w.heap.size #[.int .i64 (E : Int), .int .i64 (S : Int), .slice a n cap] 28 ∧ Below w.heap.size w u) (fun _ i _ => n - (intOf i).toNat)
  case atStart => exact ⟨0, Nat.zero_le _, rfl, World.ownsRow_nil _ _ _ _, x1, B1⟩
  case round =>
    clear x1 B1
    obtain ⟨k, hk, rfl, own, x1, B1⟩ := hrel
    have c2 := x1.cell 2
    by_cases hlt : k < n
    · have k1 : k < is.length := by rw [HL.out]; exact hlt
      obtain ⟨b, o, rfl, hc⟩ := HI.out (by omega)
      obtain ⟨g0, x, cx, g1, g2, g3, g4, g5⟩ := hc k k1
      have lb : b < w.heap.size := block_lt_of_cell g1
      obtain ⟨q1, _, q4⟩ := ok_at HOK.out k k1
      have hstep : Hid (entsB (entL (mark E S) (is.take (k + 1))) = entsB (entL (mark E S) (is.take k)) ++ (toBE 2 (is[k]'k1).1.toNat ++ hdB (mark E S) (is[k]'k1).2)) := entL_take_succ _ is k k1
      generalize (is[k]'k1) = X at g0 g1 g2 g5 q1 q4 hstep
      obtain ⟨bx, xs⟩ := X
      dsimp only at g0 g1 g2 g5 q1 q4 hstep
      have hhd : hdB (mark E S) xs = cat (fun y => (sec xs y.val).take 8) 8 := hdB_cat _ xs q4 (mark_length _ _)
      rw [hhd] at hstep
      obtain ⟨bn, rfl⟩ : ∃ bn : Nat, bx = (bn : Int) := ⟨bx.toNat, by omega⟩
      rw [Int.toNat_natCast] at hstep
      rw [q4] at g1 g2
      obtain ⟨gd, od, rfl, hcd⟩ := g5 (by omega)
      have HRD : Hid (Rd w (some ⟨gd, od, none⟩) xs) := g5
      have HG : Hid (∀ u : World, Below w.heap.size w u → u.cell? ⟨b, o + k * 2 + 1, none⟩ = some (.slice (some ⟨gd, od, none⟩) 4096 cx)) := fun u hu => (hu.cell (p := ⟨b, o + k * 2 + 1, none⟩) lb).trans g1
      rw [← B1.cell (p := ⟨b, o + k * 2, none⟩) lb] at g0
      have HX4 : Hid (xs.length = 4096) := q4
      have wbn : IntKind.u64.wrap (bn : Int) = (bn : Int) := by rw [IntKind.wrap_u64]; omega
      obtain ⟨av, cv, hv, hyl, _, _, hrd, _⟩ := owns_rd own
      subst hv
      have cA := refAdd_at cv (k * 66) 2 av (entsB (entL (mark E S) (is.take k))) bn (bn : Int) 2 wr rfl rfl hyl (by omega) (by omega) (by omega) (by omega) hrd (fun h => owns_nil own rfl h)
      have hkn : (k : Int) < (n : Int) := by omega
      clear hc g1 g3 g4 g5 hcd hhd q4
      go_wp2_with fail
      refine cA.mono ?_
      rintro r w3 ⟨v3, rfl, own3, b3⟩
      clear cA own hrd hyl g0 c2
      replace own3 := owns_base own3 B1.size
      replace x1 := x1.below b3
      replace B1 := B1.trans (b3.mono B1.size)
      clear b3
      go_wp2_with fail
      go_loopw [3, 5] (fun v i u => ∃ t : Nat, t ≤ 8 ∧ i = .int .i64 (t : Int) ∧ u.ownsRow w.heap.size 5 1 v (k * 66 + 2 + t * 8) (bcs (entsB (entL (mark E S) (is.take k)) ++ toBE 2 bn ++ cat (fun y => (sec xs y.val).take 8) t)) ∧ Box u w.heap.size #[.int .i64 (E : Int), .int .i64 (S : Int), .slice (some ⟨b, o, none⟩) n cap] 28 ∧ Below w.heap.size w u) (fun _ i _ => 8 - (intOf i).toNat)
      case atStart => exact ⟨0, by omega, rfl, by simpa [cat, firsts] using own3, x1, B1⟩
      case round =>
        clear own3 x1 B1
        obtain ⟨t, ht, rfl, own, x1, B1⟩ := hrel
        obtain ⟨av2, cv2, rfl⟩ := owns_shape own
        by_cases htl : t < 8
        · have c2 := x1.cell 2
          have g1 := HG.out wr B1
          have hp := (HRD.out.below B1 (Nat.le_refl _)).part (t * 512) 8
          rw [take8_part] at hp
          have hlen : ((sec xs t).take 8).length = t * 512 + 8 - t * 512 := by
            rw [List.length_take, sec_length xs t HX4.out htl]
            omega
          have hcs : Hid (cat (fun y => (sec xs y.val).take 8) (t + 1) = cat (fun y => (sec xs y.val).take 8) t ++ (sec xs t).take 8) := cat_succ _ t htl
          generalize (sec xs t).take 8 = ys at hp hlen hcs
          have hti : (t : Int) < 8 := by omega
          have e2 : (t : Int) * 512 + 8 ≤ (4096 : Int) := by omega
          have e3 : (t : Int) * 512 + 8 ≤ (cx : Int) := by omega
          go_wp2_with (at_builtin; refine wpList_append_bytes rfl _ _ rfl w.heap.size _ (k * 66 + 2 + t * 8) _ rfl own (some ⟨gd, od + t * 512, none⟩) _ _ ys rfl hlen hp (fun h => by cases h) (by omega) B1.size ?_)
          intro v' w' own' gr'
          have B' := B1.grown gr' B1.size (fun j e => (owns_block own j e).1)
          have x1' : Box w' w.heap.size #[.int .i64 (E : Int), .int .i64 (S : Int), .slice (some ⟨b, o, none⟩) n cap] 28 := (gr'.block _ x1.lt (fun e => by
            obtain ⟨_, cur, hb⟩ := owns_block own _ e.symm
            exact Box.ne hb x1 (by decide) rfl)).trans x1
          have own'' : Hid (w'.ownsRow w.heap.size 5 1 v' (k * 66 + 2 + (t + 1) * 8) (bcs (entsB (entL (mark E S) (is.take k)) ++ toBE 2 bn ++ cat (fun y => (sec xs y.val).take 8) (t + 1)))) := by
            show w'.ownsRow w.heap.size 5 1 v' _ _
            rw [hcs.out, show k * 66 + 2 + (t + 1) * 8 = k * 66 + 2 + t * 8 + 8 by omega]
            have e8 : t * 512 + 8 - t * 512 = 8 := by omega
            simpa [bcs_append, List.append_assoc, e8] using own'
          clear own own' gr' hp hlen B1 x1 c2 g1 hcs
          go_wp2_with fail
          go_roundw
          case rel => exact ⟨t + 1, by omega, by push_cast; rfl, own''.out, x1', B'⟩
          case measure => simp [intOf]; omega
        · have ht8 : t = 8 := by omega
          subst ht8
          have own4 : wr.ownsRow w.heap.size 5 1 (.slice av2 (k * 66 + 2 + 8 * 8) cv2) ((k + 1) * 66) (bcs (entsB (entL (mark E S) (is.take (k + 1))))) := by
            rw [hstep.out, ← List.append_assoc, show (k + 1) * 66 = k * 66 + 2 + 8 * 8 by omega]
            exact own
          clear own htl ht
          go_wp2_with fail
          go_roundw
          case rel => exact ⟨k + 1, by omega, by push_cast; rfl, own4, x1, B1⟩
          case measure => simp [intOf]; omega
    · have hke : k = n := by omega
      subst hke
      rw [List.take_of_length_le (by rw [HL.out]; exact Nat.le_refl _)] at own
      clear hlt hk
      obtain ⟨av, cv, rfl⟩ := owns_shape own
      obtain ⟨es, hes⟩ : ∃ es, es = entL (mark E S) is := ⟨_, rfl⟩
      have HES : Hid (es = entL (mark E S) is) := hes
      have hel : Hid (es.length = k) := by show _ = _; rw [hes, entL_length, HL.out]
      have he64 : Hid (∀ y ∈ es, y.2.length = 64) := by rw [hes]; exact entL_len HOK.out
      rw [← hes] at own
      clear hes
      go_wp2_with fail
      go_loopw [3] (fun v u => ∃ t : Nat, k * 66 + t ≤ 4026 ∧ u.ownsRow w.heap.size 5 1 v (k * 66 + t) (bcs (entsB es ++ nought t)) ∧ Box u w.heap.size #[.int .i64 (E : Int), .int .i64 (S : Int), .slice a k cap] 28 ∧ Below w.heap.size w u) (fun v _ => 4026 - lenOf v)
      case atStart => exact ⟨0, by omega, by simpa [nought] using own, x1, B1⟩
      case round =>
        clear own x1 B1
        obtain ⟨t, ht, own, x1, B1⟩ := hrel
        obtain ⟨av2, cv2, rfl⟩ := owns_shape own
        by_cases htl : k * 66 + t < 4026
        · have hti : (k : Int) * 66 + (t : Int) < 4026 := by omega
          have al := (Below.refl wr.heap.size wr).alloc (Nat.le_refl _) (.cells #[.int .u8 0] 5)
          have own1 := owns_below own al
          have hn : Rd (wr.alloc (.cells #[.int .u8 0] 5)) (some ⟨wr.heap.size, 0, none⟩) [0] := (own_lit wr [0]).rd
          have B2 := B1.alloc B1.size (.cells #[.int .u8 0] 5)
          have x2 := x1.below al
          clear own x1 B1 al
          go_wp2_with (at_builtin; refine wpList_append_bytes rfl _ _ rfl w.heap.size _ (k * 66 + t) _ rfl own1 (some ⟨wr.heap.size, 0, none⟩) _ _ [0] rfl rfl hn (fun h => by cases h) (by omega) B2.size ?_)
          intro v' w' own' gr'
          have B' := B2.grown gr' B2.size (fun j e => (owns_block own1 j e).1)
          have x1' : Box w' w.heap.size #[.int .i64 (E : Int), .int .i64 (S : Int), .slice a k cap] 28 := (gr'.block _ x2.lt (fun e => by
            obtain ⟨_, cur, hb⟩ := owns_block own1 _ e.symm
            exact Box.ne hb x2 (by decide) rfl)).trans x2
          have own'' : Hid (w'.ownsRow w.heap.size 5 1 v' (k * 66 + (t + 1)) (bcs (entsB es ++ nought (t + 1)))) := by
            have e1 : nought (t + 1) = nought t ++ [0] := by unfold nought; rw [List.replicate_succ']
            show w'.ownsRow w.heap.size 5 1 v' _ _
            rw [e1, ← List.append_assoc, bcs_append]
            exact own'
          obtain ⟨av3, cv3, rfl⟩ := owns_shape own'
          clear own1 own' gr' hn B2 x2
          go_wp2_with fail
          go_roundw
          case rel => exact ⟨t + 1, by omega, own''.out, x1', B'⟩
          case measure => simp [lenOf]; omega
        · have htl2 : ¬ (k : Int) * 66 + (t : Int) < 4026 := by omega
          have hsum : k * 66 + t = 4026 := by omega
          have hrs : restB es = entsB es ++ nought t := by
            unfold restB
            rw [hel.out, show 4026 - k * 66 = t by omega]
          rw [← hrs, hsum] at own
          rw [hsum]
          obtain ⟨rs, hrs2⟩ : ∃ rs, rs = restB es := ⟨_, rfl⟩
          have HRS : Hid (rs = restB es) := hrs2
          rw [← hrs2] at own
          clear hrs hrs2 hsum htl htl2 ht
          obtain ⟨av3, cv3, hv3, hrl, hc3, hm3, hrd3, hg3⟩ := owns_rd own
          injection hv3 with e1 _ e3
          subst e1 e3
          obtain ⟨gr, hgr, lgr, lgr2⟩ := hg3 (by omega)
          subst hgr
          have ORS : Hid (wr.ownsRow w.heap.size 5 1 (.slice (some ⟨gr, 0, none⟩) 4026 cv2) 4026 (bcs rs)) := own
          have c2 := x1.cell 2
          have wk : IntKind.u64.wrap (k : Int) = (k : Int) := by rw [IntKind.wrap_u64]; omega
          have cA := refAdd_at 0 0 2 none [] k (k : Int) 2 wr rfl rfl rfl (by omega) (by omega) (by omega) (by omega) (Rd.nil _ _) (fun _ => rfl)
          have hcv : (4026 : Int) ≤ (cv2 : Int) := by omega
          clear own hg3
          go_wp2_with fail
          refine cA.mono ?_
          rintro r w5 ⟨v5, rfl, own5, b5⟩
          clear cA c2
          obtain ⟨av5, cv5, hv5, hl5, _, _, hrd5, _⟩ := owns_rd own5
          subst hv5
          have hnil5 := owns_nil own5 rfl
          have r5 := hrd3.below b5 (Nat.le_refl _)
          have cM := rmore_at cv2 4026 (some ⟨gr, 0, none⟩) rs 0 0 w5 rfl hrl (by omega) (by omega) r5
          go_wp2_with fail
          refine cM.mono ?_
          rintro r w6 ⟨rfl, rfl⟩
          clear cM
          have hcl : crc 0 rs < 4294967296 := crc_lt 0 rs
          obtain ⟨C, hC⟩ : ∃ C, C = crc 0 rs := ⟨_, rfl⟩
          have HC : Hid (C = crc 0 rs) := hC
          rw [← hC] at hcl ⊢
          clear hC
          have wC : IntKind.u64.wrap (C : Int) = (C : Int) := by rw [IntKind.wrap_u64]; omega
          have cA := refAdd_at cv5 (0 + 2) 4 av5 ([] ++ toBE 2 k) C (C : Int) 4 w5 rfl rfl hl5 (by omega) (by omega) (by omega) (by omega) hrd5 hnil5
          go_wp2_with fail
          refine cA.mono ?_
          rintro r w7 ⟨v7, rfl, own7, b7⟩
          clear cA
          have B7 := (B1.trans (b5.mono B1.size)).trans (b7.mono (Nat.le_trans B1.size b5.size))
          have x7 := (x1.below b5).below b7
          have r7 := r5.below b7 (Nat.le_refl _)
          have base7 : w.heap.size ≤ w5.heap.size := Nat.le_trans B1.size b5.size
          replace own7 := owns_base own7 base7
          obtain ⟨av7, cv7, rfl⟩ := owns_shape own7
          clear x1 B1 b5 b7 own5 hrd5 hl5 hnil5 hrd3 r5
          go_wp2_with (at_builtin; refine wpList_append_bytes rfl _ _ rfl w.heap.size _ (0 + 2 + 4) _ rfl own7 (some ⟨gr, 0, none⟩) _ _ rs rfl hrl r7 (fun h => by cases h) (by omega) B7.size ?_)
          intro v8 w8 own8 gr8
          have B8 := B7.grown gr8 B7.size (fun j e => (owns_block own7 j e).1)
          have x8 : Box w8 w.heap.size #[.int .i64 (E : Int), .int .i64 (S : Int), .slice a k cap] 28 := (gr8.block _ x7.lt (fun e => by
            obtain ⟨_, cur, hb⟩ := owns_block own7 _ e.symm
            exact Box.ne hb x7 (by decide) rfl)).trans x7
          have own9 : w8.ownsRow w.heap.size 5 1 v8 4032 (bcs (bodyB es)) := by
            have e1 : bodyB es = [] ++ toBE 2 k ++ toBE 4 C ++ rs := by
              unfold bodyB
              rw [hel.out, ← HRS.out, ← HC.out, List.nil_append]
            rw [e1, bcs_append _ rs]
            exact own8
          obtain ⟨BB, hBB⟩ : ∃ BB, BB = bodyB es := ⟨_, rfl⟩
          have HBB : Hid (BB = bodyB es) := hBB
          rw [← hBB] at own9
          clear hBB own8 gr8 own7 x7 B7 r7 ORS
          obtain ⟨av9, cv9, hv9, hl9, hc9, _, hrd9, hg9⟩ := owns_rd own9
          subst hv9
          obtain ⟨g9, hg99, lg9, lg92⟩ := hg9 (by omega)
          subst hg99
          have HR9 : Hid (Rd w8 (some ⟨g9, 0, none⟩) BB) := hrd9
          have HL9 : Hid (BB.length = 4032) := hl9
          clear hg9 hrd9 hl9
          have ci : (4032 : Int) ≤ (cv9 : Int) := by omega
          go_wp2_with fail
          go_loopw [7, 8] (fun v i u => ∃ t : Nat, t ≤ 8 ∧ i = .int .i64 (t : Int) ∧ u.ownsRow w8.heap.size 5 1 v (t * 512) (bcs (cat (fun y => mark E S ++ (BB.drop (y.val * 504)).take 504) t)) ∧ Below w8.heap.size w8 u) (fun _ i _ => 8 - (intOf i).toNat)
          case atStart => exact ⟨0, by omega, rfl, World.ownsRow_nil _ _ _ _, Below.refl _ _⟩
          case round =>
            obtain ⟨t, ht, rfl, own, B⟩ := hrel
            obtain ⟨av, cv, rfl⟩ := owns_shape own
            have x9 := x8.below B
            by_cases htl : t < 8
            · have z0 := x9.cell 0
              have z1 := x9.cell 1
              have z2 := x9.cell 2
              have hti : (t : Int) < 8 := by omega
              have cS := rstamp_at E S (.slice a k cap) wr hE hS
              go_wp2_with fail
              refine cS.mono ?_
              rintro r w10 ⟨gs, cs, rfl, lgs, rows, b10⟩
              clear cS z0 z1 z2
              have own1 := owns_below own b10
              have B10 := B.trans (b10.mono B.size)
              have hml := mark_length E S
              go_wp2_with (at_builtin; refine wpList_append_bytes rfl _ _ rfl w8.heap.size _ (t * 512) _ rfl own1 (some ⟨gs, 0, none⟩) _ _ (mark E S) rfl hml rows.rd (fun h => by cases h) (by omega) B10.size ?_)
              intro v11 w11 own11 gr11
              have B11 := B10.grown gr11 B10.size (fun j e => (owns_block own1 j e).1)
              obtain ⟨av11, cv11, rfl⟩ := owns_shape own11
              have hp := (HR9.out.below B11 (Nat.le_refl _)).part (t * 504) 504
              rw [Nat.zero_add] at hp
              have hlen : ((BB.drop (t * 504)).take 504).length = (t + 1) * 504 - t * 504 := by
                rw [List.length_take, List.length_drop, HL9.out]
                omega
              have hcs : Hid (cat (fun y => mark E S ++ (BB.drop (y.val * 504)).take 504) (t + 1) = cat (fun y => mark E S ++ (BB.drop (y.val * 504)).take 504) t ++ (mark E S ++ (BB.drop (t * 504)).take 504)) := cat_succ _ t htl
              generalize (BB.drop (t * 504)).take 504 = ys at hp hlen hcs
              clear own own1 gr11 rows b10 B10 B lgs
              go_wp2_with (at_builtin; refine wpList_append_bytes rfl _ _ rfl w8.heap.size _ (t * 512 + 8) _ rfl own11 (some ⟨g9, t * 504, none⟩) _ _ ys rfl hlen hp (fun h => by cases h) (by omega) B11.size ?_)
              intro v12 w12 own12 gr12
              have B12 := B11.grown gr12 B11.size (fun j e => (owns_block own11 j e).1)
              have own13 : Hid (w12.ownsRow w8.heap.size 5 1 v12 ((t + 1) * 512) (bcs (cat (fun y => mark E S ++ (BB.drop (y.val * 504)).take 504) (t + 1)))) := by
                show w12.ownsRow w8.heap.size 5 1 v12 _ _
                have e8 : (t + 1) * 504 - t * 504 = 504 := by omega
                rw [hcs.out, show (t + 1) * 512 = t * 512 + 8 + 504 by omega]
                simpa [bcs_append, List.append_assoc, e8] using own12
              clear own11 own12 gr12 hp hlen hcs B11 x9
              go_wp2_with fail
              go_roundw
              case rel => exact ⟨t + 1, by omega, by push_cast; rfl, own13.out, B12⟩
              case measure => simp [intOf]; omega
            · have ht8 : t = 8 := by omega
              subst ht8
              have hfin : cat (fun y : Fin 8 => mark E S ++ (BB.drop (y.val * 504)).take 504) 8 = headB E S (entL (mark E S) is) := by
                have hb : (bodyB es).length = 4032 := by rw [← HBB.out]; exact HL9.out
                rw [HBB.out, ← headB_cat E S es hb, HES.out]
              rw [hfin] at own
              have BF := B8.trans (B.mono B8.size)
              have ownF := owns_base own B8.size
              clear own B x9 hfin
              go_wp2_with fail
              go_ret
              exact ⟨_, rfl, ownF, BF⟩
end Go.Proofs.Ytghcmlkgpedkkaa
