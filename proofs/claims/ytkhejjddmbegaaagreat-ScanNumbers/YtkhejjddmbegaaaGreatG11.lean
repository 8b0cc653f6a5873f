/-
  RcRRead, RcRTail, RcRUh, RcRGet, DkRefRow, DkRefWrite, DkRefFlush, DkRefCrashP, DkRefCrash, DkRefLoad: put together.
-/
import Derived.Test.YtkhejjddmbegaaaGreatG10
import Derived.Deep.Cut
import Derived.Deep.RegionWith
/-
  The document's own read: the group of which a block may be the head.
-/
namespace Go.Proofs.YtkhejjddmbegaaaGreat.Rc
open Go.RowKit

/-- what read tells -/
def ReadR (w : World) (xs : List UInt8) (r : Ending) (w' : World) : Prop :=
  (isHead xs ∧ ∃ a c qs, r = .returned (.tuple #[.agg #[.int .i64 (saidE xs : Int), .int .i64 (saidS xs : Int), .slice a (saidEs xs).length c], .bool true]) ∧ w'.ownsRow w.heap.size 108 2 (.slice a (saidEs xs).length c) (saidEs xs).length (imgC qs) ∧
    GetJ w.heap.size w' qs ∧ SaidG xs (qs.map fun p => (p.b, p.xs)) ∧ Below w.heap.size w w') ∨
  (¬ isHead xs ∧ ∃ e s a n c, r = .returned (.tuple #[.agg #[.int .i64 e, .int .i64 s, .slice a n c], .bool false]) ∧ Below w.heap.size w w')

/-- what stands in read's last statement -/
structure ReadS (w : World) (E S n : Nat) (a : Option Addr) (c : Nat) (qs : List GG) (u : World) : Prop where
  x8 : Box u (w.heap.size + 1) #[.int .i64 (E : Int), .int .i64 (S : Int), .slice a n c] 40
  own : u.ownsRow w.heap.size 108 2 (.slice a n c) n (imgC qs)
  J : GetJ w.heap.size u qs
  B : Below w.heap.size w u
@[reducible] def ReadT (w : World) (E S n : Nat) (a : Option Addr) (c : Nat) (qs : List GG) (u : World) : Prop :=
  u.cell? ⟨w.heap.size + 1, 0, none⟩ = some (.int .i64 (E : Int)) ∧ u.cell? ⟨w.heap.size + 1, 1, none⟩ = some (.int .i64 (S : Int)) ∧ u.cell? ⟨w.heap.size + 1, 2, none⟩ = some (.slice a n c) ∧ Hid (ReadS w E S n a c qs u)
section
variable {w u u' : World} {E S n c : Nat} {a : Option Addr} {qs : List GG}
theorem ReadT.new (h : ReadS w E S n a c qs u) : ReadT w E S n a c qs u := ⟨h.x8.cell 0, h.x8.cell 1, h.x8.cell 2, h⟩
theorem ReadT.below (b : Below u.heap.size u u') (h : ReadT w E S n a c qs u) : ReadT w E S n a c qs u' := ReadT.new ⟨h.2.2.2.out.x8.below b, owns_below h.2.2.2.out.own b, h.2.2.2.out.J.below b, h.2.2.2.out.B.trans (b.mono h.2.2.2.out.B.size)⟩
theorem ReadS.put {j : Nat} {v : Value} {cs : Array Value} (h : ReadS w E S n a c qs u) (hb : Box u w.heap.size cs 40) : ReadS w E S n a c qs (u.setCell ⟨w.heap.size, j, none⟩ v) :=
  ⟨(heap_setCell_other u ⟨w.heap.size, j, none⟩ (w.heap.size + 1) v (by simp)).trans h.x8, owns_grown h.own (grown_store _ _ _ _) (fun g h1 h2 => by
    injection h2 with h2
    subst h2
    obtain ⟨_, cur, hc⟩ := owns_block h.own _ h1
    exact Box.ne hc hb (by decide) rfl), h.J.store hb (by decide) v, h.B.setCell (p := ⟨w.heap.size, j, none⟩) (Nat.le_refl _) v⟩
theorem ReadT.put3 {x y z : Value} (hb : Box u w.heap.size #[.int .i64 0, .int .i64 0, .slice none 0 0] 40) (h : ReadT w E S n a c qs u) : ReadT w E S n a c qs (((u.setCell ⟨w.heap.size, 0, none⟩ x).setCell ⟨w.heap.size, 1, none⟩ y).setCell ⟨w.heap.size, 2, none⟩ z) := by
  have b1 := hb.store 0 x
  have b2 := b1.store 1 y
  exact ReadT.new (((h.2.2.2.out.put hb).put b1).put b2)
theorem ReadT.imgs (h : ReadT w E S n a c qs u) (hl : qs.length = n) : Imgs u a (qs.map fun p => (p.b, p.xs)) := imgs_of h.2.2.2.out.own h.2.2.2.out.J hl
end

set_option maxRecDepth 100000 in
theorem rread_short (a : Option Addr) (n cap : Nat) (xs : List UInt8) (w : World) (hl : xs.length = n) (h4 : ¬ n = 4096) : Calls Tryz.prog 66 #[.slice a n cap] w (ReadR w xs) := by
  have hno : Hid (¬ isHead xs) := fun h => h4 (by rw [← hl]; exact h.1)
  have x2 := Box.new w #[.int .i64 0, .int .i64 0, .slice none 0 0] 40
  have B2 := (Below.refl w.heap.size w).alloc (Nat.le_refl _) (.cells #[.int .i64 0, .int .i64 0, .slice none 0 0] 40)
  have hb : ((n : Int) == 4096) = false := by simp; omega
  have hb2 : ((n : Int) != 4096) = true := by simp; omega
  clear hl h4
  go_enter Tryz.func66, Tryz.ntmps66
  go_wp2_with fail
  refine bodyPost_ret (v := .tuple #[.agg #[.int .i64 0, .int .i64 0, .slice none 0 0], .bool false]) (by simp [results, Tryz.results66, go_sem]) rfl ?_
  exact .inr ⟨hno.out, 0, 0, none, 0, 0, rfl, B2⟩

set_option maxRecDepth 100000 in
set_option maxHeartbeats 8000000 in
theorem rread_in (g o cap : Nat) (xs : List UInt8) (w : World) (hl : xs.length = 4096) (hr : Rd w (some ⟨g, o, none⟩) xs) (_hcap : 4096 ≤ cap) : Calls Tryz.prog 66 #[.slice (some ⟨g, o, none⟩) 4096 cap] w (ReadR w xs) := by
  obtain ⟨i0, hi, hz0, hz1, hz2⟩ := info_parts info38
  have x2 := Box.new w #[.int .i64 0, .int .i64 0, .slice none 0 0] 40
  have B2 := (Below.refl w.heap.size w).alloc (Nat.le_refl _) (.cells #[.int .i64 0, .int .i64 0, .slice none 0 0] 40)
  have HL : Hid (xs.length = 4096) := hl
  have HR : Hid (Rd w (some ⟨g, o, none⟩) xs) := hr
  obtain ⟨s1, s2⟩ := said_nums xs hl
  have hE : saidE xs < 16777216 := by
    rw [← s1]
    have := beNat_lt (xs.take 3)
    rw [List.length_take, hl] at this
    exact this
  have hS : saidS xs < 1099511627776 := by
    unfold saidS
    omega
  have n1 : numAt xs 0 3 = some (saidE xs) := by
    have := numAt_some (xs := xs) (k := 0) (size := 3) (by omega)
    rw [List.drop_zero, s1] at this
    exact this
  have n2 : numAt xs 3 5 = some (saidS xs) := by
    have := numAt_some (xs := xs) (k := 3) (size := 5) (by omega)
    rw [s2] at this
    exact this
  have cN1 := refNumber_at cap 4096 (some ⟨g, o, none⟩) xs 0 3 3 (w.alloc (.cells #[.int .i64 0, .int .i64 0, .slice none 0 0] 40)) rfl hl (by omega) (by omega) (by omega) (hr.below B2 (Nat.le_refl _))
  have cN2 := refNumber_at cap 4096 (some ⟨g, o, none⟩) xs 3 5 5 (w.alloc (.cells #[.int .i64 0, .int .i64 0, .slice none 0 0] 40)) rfl hl (by omega) (by omega) (by omega) (hr.below B2 (Nat.le_refl _))
  rw [n1] at cN1
  rw [n2] at cN2
  clear n1 n2 s1 s2 hl hr
  obtain ⟨E, hEd⟩ : ∃ E, E = saidE xs := ⟨_, rfl⟩
  obtain ⟨S, hSd⟩ : ∃ S, S = saidS xs := ⟨_, rfl⟩
  rw [← hEd] at hE cN1
  rw [← hSd] at hS cN2
  have HE : Hid (E = saidE xs) := hEd
  have HS : Hid (S = saidS xs) := hSd
  have wE : IntKind.i64.wrap (E : Int) = (E : Int) := by rw [IntKind.wrap_i64]; omega
  have wS : IntKind.i64.wrap (S : Int) = (S : Int) := by rw [IntKind.wrap_i64]; omega
  clear hEd hSd
  dsimp only [Option.getD_some, Option.isSome_some] at cN1 cN2
  go_enter Tryz.func66, Tryz.ntmps66
  go_wp2_with fail
  refine cN1.mono ?_
  rintro r w1 ⟨rfl, rfl⟩
  go_wp2_with fail
  refine cN2.mono ?_
  rintro r w1 ⟨rfl, rfl⟩
  clear cN1 cN2
  have x2' := x2.alloc (.cells #[.int .i64 (E : Int), .int .i64 (S : Int), .slice none 0 0] 40)
  have x8 := Box.new (w.alloc (.cells #[.int .i64 0, .int .i64 0, .slice none 0 0] 40)) #[.int .i64 (E : Int), .int .i64 (S : Int), .slice none 0 0] 40
  have hs1 : (w.alloc (.cells #[.int .i64 0, .int .i64 0, .slice none 0 0] 40)).heap.size = w.heap.size + 1 := by simp
  rw [hs1] at x8
  have B3 := B2.alloc B2.size (.cells #[.int .i64 (E : Int), .int .i64 (S : Int), .slice none 0 0] 40)
  obtain ⟨W1, hW1⟩ : ∃ u, u = (w.alloc (.cells #[.int .i64 0, .int .i64 0, .slice none 0 0] 40)).alloc (.cells #[.int .i64 (E : Int), .int .i64 (S : Int), .slice none 0 0] 40) := ⟨_, rfl⟩
  rw [← hW1] at x2' x8 B3
  have HW : Hid (W1 = (w.alloc (.cells #[.int .i64 0, .int .i64 0, .slice none 0 0] 40)).alloc (.cells #[.int .i64 (E : Int), .int .i64 (S : Int), .slice none 0 0] 40)) := hW1
  clear hW1 x2 B2 hs1
  go_wp2_with fail
  rw [← HW.out]
  clear HW
  go_loopw [9, 10] (fun v i u => ∃ k : Nat, k ≤ 4096 ∧ i = .int .i64 (k : Int) ∧ u.ownsRow W1.heap.size 5 1 v (gath xs k).length (bcs (gath xs k)) ∧ Below W1.heap.size W1 u) (fun _ i _ => 4096 - (intOf i).toNat)
  case atStart => exact ⟨0, by omega, rfl, World.ownsRow_nil _ _ _ _, Below.refl _ _⟩
  case round =>
    obtain ⟨k, hk, rfl, own, B⟩ := hrel
    obtain ⟨av, cv, rfl⟩ := owns_shape own
    have hgb := gath_bound xs k
    by_cases hlt : k < 4096
    · have hki : (k : Int) < 4096 := by omega
      have hgs := gath_succ xs k
      by_cases h8 : 8 ≤ k % 512
      · have hi8 : (8 : Int) ≤ (k : Int) % 512 := by omega
        rw [if_pos h8] at hgs
        obtain ⟨g', o', he, hcx⟩ := HR.out (by rw [HL.out]; omega)
        obtain ⟨rfl, rfl⟩ : g = g' ∧ o = o' := by simpa using he
        have ck := hcx k (by rw [HL.out]; exact hlt)
        have lg : g < w.heap.size := block_lt_of_cell ck
        rw [← (B3.trans (B.mono B3.size)).cell (p := ⟨g, o + k, none⟩) lg] at ck
        have hgd : xs.getD k 0 = xs[k]'(by rw [HL.out]; exact hlt) := by
          rw [List.getD_eq_getElem?_getD, List.getElem?_eq_getElem (by rw [HL.out]; exact hlt)]
          rfl
        rw [hgd] at hgs
        have HG : Hid (gath xs (k + 1) = gath xs k ++ [xs[k]'(by rw [HL.out]; exact hlt)]) := hgs
        generalize (xs[k]'(by rw [HL.out]; exact hlt)) = bv at ck HG
        have al := (Below.refl wr.heap.size wr).alloc (Nat.le_refl _) (.cells #[.int .u8 (bv.toNat : Int)] 5)
        have own1 := owns_below own al
        have hn : Rd (wr.alloc (.cells #[.int .u8 (bv.toNat : Int)] 5)) (some ⟨wr.heap.size, 0, none⟩) [bv] := (own_lit wr [bv]).rd
        have B4 := B.alloc B.size (.cells #[.int .u8 (bv.toNat : Int)] 5)
        obtain ⟨N, hN⟩ : ∃ N, N = (gath xs k).length := ⟨_, rfl⟩
        rw [← hN] at own1 hgb ⊢
        have HN : Hid (N = (gath xs k).length) := hN
        clear hN own hgs hgd hcx he B al h8
        go_wp2_with (at_builtin; refine wpList_append_bytes rfl _ _ rfl W1.heap.size _ N _ rfl own1 (some ⟨wr.heap.size, 0, none⟩) _ _ [bv] rfl rfl hn (fun h => by cases h) (by omega) B4.size ?_)
        intro v' w' own' gr'
        have B' := B4.grown gr' B4.size (fun j e => (owns_block own1 j e).1)
        have own'' : Hid (w'.ownsRow W1.heap.size 5 1 v' (gath xs (k + 1)).length (bcs (gath xs (k + 1)))) := by
          show w'.ownsRow W1.heap.size 5 1 v' _ _
          rw [HG.out, bcs_append, List.length_append, ← HN.out]
          exact own'
        clear own1 own' gr' hn B4 ck
        go_wp2_with fail
        go_roundw
        case rel => exact ⟨k + 1, by omega, by push_cast; rfl, own''.out, B'⟩
        case measure => simp [intOf]; omega
      · have hi8 : ¬ (8 : Int) ≤ (k : Int) % 512 := by omega
        rw [if_neg h8] at hgs
        have HG : Hid (gath xs (k + 1) = gath xs k) := hgs
        have own1 : Hid (wr.ownsRow W1.heap.size 5 1 (.slice av (gath xs k).length cv) (gath xs (k + 1)).length (bcs (gath xs (k + 1)))) := by
          show wr.ownsRow W1.heap.size 5 1 _ _ _
          rw [HG.out]
          exact own
        clear hgs own h8 hgb
        go_wp2_with fail
        go_roundw
        case rel => exact ⟨k + 1, by omega, by push_cast; rfl, own1.out, B⟩
        case measure => simp [intOf]; omega
    · have hk2 : k = 4096 := by omega
      subst hk2
      clear hlt hk hgb
      have hbl := bodyX_length xs HL.out
      rw [gath_all xs HL.out, hbl] at own
      rw [gath_all xs HL.out, hbl]
      obtain ⟨BX, hBX⟩ : ∃ BX, BX = bodyX xs := ⟨_, rfl⟩
      rw [← hBX] at own hbl
      have HBX : Hid (BX = bodyX xs) := hBX
      clear hBX
      obtain ⟨av', cv', hv', _, hc1, _, hrd, hgg⟩ := owns_rd own
      obtain ⟨gb, hgb, lgb, lgb2⟩ := hgg (by omega)
      injection hv' with e1 _ e3
      subst e1 e3 hgb
      have hcn : BX.length = 4032 := hbl
      have nn : numAt BX 0 2 = some (cntOf BX) := by
        have := numAt_some (xs := BX) (k := 0) (size := 2) (by omega)
        rw [List.drop_zero] at this
        exact this
      have cN := refNumber_at cv 4032 (some ⟨gb, 0, none⟩) BX 0 2 2 wr rfl hbl (by omega) (by omega) (by omega) hrd
      rw [nn] at cN
      dsimp only [Option.getD_some, Option.isSome_some] at cN
      have HRD : Hid (Rd wr (some ⟨gb, 0, none⟩) BX) := hrd
      have HBL : Hid (BX.length = 4032) := hbl
      have hcl : cntOf BX < 65536 := be2_lt BX
      obtain ⟨n, hn⟩ : ∃ n, n = cntOf BX := ⟨_, rfl⟩
      rw [← hn] at cN hcl
      have HN : Hid (n = cntOf BX) := hn
      have hW1 : w.heap.size + 1 < W1.heap.size := x8.lt
      have row9 : RowB wr gb cv BX := by
        obtain ⟨g2, c2, e2, _, h2⟩ := RowB.owns own (by omega)
        injection e2 with f1 _ f3
        injection f1 with f1
        injection f1 with f1
        subst f1 f3
        exact h2
      replace x2' := x2'.below B
      replace x8 := x8.below B
      replace B3 := B3.trans (B.mono B3.size)
      clear hn own hrd hgg hbl hcn nn B
      go_wp2_with fail
      refine cN.mono ?_
      rintro r w5 ⟨rfl, rfl⟩
      clear cN
      by_cases hn32 : n ≤ 32
      · have hni : ¬ (32 : Int) < (n : Int) := by omega
        have wn : IntKind.i64.wrap (n : Int) = (n : Int) := by rw [IntKind.wrap_i64]; omega
        have HSE : Hid (saidEs xs = entsOf BX n) := by
          show saidEs xs = _
          unfold saidEs
          rw [← HBX.out, ← HN.out, if_pos hn32]
        clear HN HRD
        go_wp2_with fail
        go_loopw [13] (fun v u => ∃ (k : Nat) (sv : Value) (qs : List GG), k ≤ n ∧ v = .int .i64 (k : Int) ∧ Box u w.heap.size #[.int .i64 0, .int .i64 0, .slice none 0 0] 40 ∧ Box u (w.heap.size + 1) #[.int .i64 (E : Int), .int .i64 (S : Int), sv] 40 ∧ u.ownsRow w.heap.size 108 2 sv k (imgC qs) ∧ GetJ w.heap.size u qs ∧ qs.length = k ∧ (∀ i (h : i < qs.length), (qs[i]).b = ((entOf BX i).1 : Int) ∧ DtK (entOf BX i).2 64 (qs[i]).xs) ∧ RowB u gb cv BX ∧ Below w.heap.size w u) (fun v _ => n - (intOf v).toNat)
        case atStart => exact ⟨0, _, [], Nat.zero_le _, rfl, x2', x8, World.ownsRow_nil _ _ _ _, ⟨fun p hp => (by cases hp), List.nodup_nil⟩, rfl, fun i h => (by simp at h), row9, B3⟩
        case round =>
          clear x2' x8 row9 B3
          obtain ⟨W, rfl⟩ : ∃ W, W = wr := ⟨_, rfl⟩
          obtain ⟨k, sv, qs, hk, rfl, x2, x8, own, hJ, hql, hqs, row, B⟩ := hrel
          obtain ⟨av, cw, rfl⟩ := owns_shape own
          have HQL : Hid (qs.length = k) := hql
          have HQS : Hid (∀ i (h : i < qs.length), (qs[i]).b = ((entOf BX i).1 : Int) ∧ DtK (entOf BX i).2 64 (qs[i]).xs) := hqs
          clear hql hqs
          by_cases hlt : k < n
          · have hki : (k : Int) < (n : Int) := by omega
            have nn : numAt BX (6 + 66 * (k : Int)) 2 = some (entOf BX k).1 := by
              have := numAt_some (xs := BX) (k := 6 + k * 66) (size := 2) (by rw [HBL.out]; omega)
              have e : ((6 + k * 66 : Nat) : Int) = 6 + 66 * (k : Int) := by omega
              rw [e] at this
              exact this
            have cN := refNumber_at cv 4032 (some ⟨gb, 0, none⟩) BX (6 + 66 * (k : Int)) 2 2 W rfl HBL.out (by omega) (by omega) (by omega) row.rd
            rw [nn] at cN
            dsimp only [Option.getD_some, Option.isSome_some] at cN
            obtain ⟨bn, hbn⟩ : ∃ bn, bn = (entOf BX k).1 := ⟨_, rfl⟩
            have hbl : bn < 65536 := by
              rw [hbn]
              exact be2_lt _
            rw [← hbn] at cN
            have HBN : Hid (bn = (entOf BX k).1) := hbn
            have wbn : IntKind.i64.wrap (bn : Int) = (bn : Int) := by rw [IntKind.wrap_i64]; omega
            clear hbn nn
            go_wp2_with fail
            refine cN.mono ?_
            rintro r w6 ⟨rfl, rfl⟩
            clear cN
            have hm : ∀ u : World, (Instr.makeSlice 41 (.int .i64 4096) (.int .i64 4096)).run Tryz.prog u = .ok (.slice (some ⟨u.heap.size, 0, none⟩) 4096 4096) (u.alloc (.cells (bcs (nought 4096)).toArray 5)) := make_run 4096 (by omega)
            have o0 := own_lit W (nought 4096)
            have B0 := (Below.refl W.heap.size W).alloc (Nat.le_refl _) (.cells (bcs (nought 4096)).toArray 5)
            have HD0 : Hid (DtK (entOf BX k).2 0 (nought 4096)) := DtK.start _
            have ln4 : (nought 4096).length = 4096 := nought_length _
            obtain ⟨zz, hzz⟩ : ∃ zz, zz = nought 4096 := ⟨_, rfl⟩
            rw [← hzz] at hm o0 B0 HD0 ln4
            clear hzz
            have rz : RowB (W.alloc (.cells (bcs zz).toArray 5)) W.heap.size 4096 zz := by
              have := RowB.own o0 (by rw [ln4]; decide)
              rwa [ln4] at this
            obtain ⟨U, hU⟩ : ∃ U, U = W.alloc (.cells (bcs zz).toArray 5) := ⟨_, rfl⟩
            rw [← hU] at rz B0
            have HU : Hid (U = W.alloc (.cells (bcs zz).toArray 5)) := hU
            clear hU o0
            go_wp2_with fail
            rw [← HU.out]
            clear HU hm
            go_loopw [18] (fun v u => ∃ (t : Nat) (Y : List UInt8), t ≤ 64 ∧ v = .int .i64 (t : Int) ∧ DtK (entOf BX k).2 t Y ∧ RowB u W.heap.size 4096 Y ∧ Below W.heap.size W u) (fun v _ => 64 - (intOf v).toNat)
            case atStart => exact ⟨0, zz, by omega, rfl, HD0.out, rz, B0⟩
            case round =>
              clear rz B0 HD0 ln4
              obtain ⟨t, Y, ht, rfl, hY, rowY, bB⟩ := hrel
              by_cases htl : t < 64
              · have hti : (t : Int) < 64 := by omega
                obtain ⟨q, hq⟩ : ∃ q : Nat, (t : Int) / 8 = (q : Int) := ⟨t / 8, by omega⟩
                obtain ⟨r, hr⟩ : ∃ r : Nat, (t : Int) % 8 = (r : Int) := ⟨t % 8, by omega⟩
                obtain ⟨m, hmm⟩ : ∃ m : Nat, 6 + 66 * (k : Int) + 2 + (t : Int) = (m : Int) := ⟨8 + k * 66 + t, by omega⟩
                obtain ⟨p, hpp⟩ : ∃ p : Nat, (q : Int) * 512 + (r : Int) = (p : Int) := ⟨q * 512 + r, by omega⟩
                have hpe : Hid (p = hpos t) := by show p = hpos t; unfold hpos; omega
                have hme : Hid (m = 8 + k * 66 + t) := by show m = 8 + k * 66 + t; omega
                have hml : (m : Int) < 4032 := by omega
                have hpl : (p : Int) < 4096 := by omega
                have rowB := row.same (bB.block _ row.lt)
                obtain ⟨cm, _⟩ := rowB.cellAt (j := m) (by rw [HBL.out]; omega)
                obtain ⟨cp, fp⟩ := rowY.cellAt (j := p) (by rw [hY.len]; omega)
                have hv : Hid ((entOf BX k).2[t]? = some (BX[m]'(by rw [HBL.out]; omega))) := by
                  show (entOf BX k).2[t]? = _
                  unfold entOf
                  show ((BX.drop (8 + k * 66)).take 64)[t]? = _
                  rw [List.getElem?_take, if_pos htl, List.getElem?_drop, ← hme.out]
                  exact List.getElem?_eq_getElem (by rw [HBL.out]; omega)
                generalize (BX[m]'(by rw [HBL.out]; omega)) = bv at cm hv
                have rowZ : Hid (RowB (wr.setCell ⟨W.heap.size, p, none⟩ (.int .u8 (bv.toNat : Int))) W.heap.size 4096 (Y.set p bv)) := rowY.byte p (by rw [hY.len]; omega) bv
                have HY : Hid (DtK (entOf BX k).2 (t + 1) (Y.set p bv)) := by
                  rw [hpe.out]
                  exact hY.put htl bv hv.out
                have BZ : Hid (Below W.heap.size W (wr.setCell ⟨W.heap.size, p, none⟩ (.int .u8 (bv.toNat : Int)))) := bB.setCell (p := ⟨W.heap.size, p, none⟩) (Nat.le_refl _) _
                generalize ((Y[p]'(by rw [hY.len]; omega)).toNat : Int) = cz at cp
                have hm0 : (0 : Int) ≤ (m : Int) := by omega
                have hp0 : (0 : Int) ≤ (p : Int) := by omega
                have hcv : (4032 : Int) ≤ (cv : Int) := by omega
                clear rowY rowB hY bB htl
                go_wp2_with fail
                go_roundw
                case rel => exact ⟨t + 1, _, by omega, by push_cast; rfl, HY.out, rowZ.out, BZ.out⟩
                case measure => simp [intOf]; omega
              · have ht64 : t = 64 := by omega
                rw [ht64] at hY ⊢
                clear ht64 htl ht
                have x2b := x2.below bB
                have x8b := x8.below bB
                have c2 := x8b.cell 2
                have f2 := x8b.frozen 2
                have J2 : GetJ w.heap.size wr (qs ++ [⟨(bn : Int), Y, W.heap.size, 4096⟩]) := hJ.snoc bB ⟨(bn : Int), Y, W.heap.size, 4096⟩ rowY (Nat.le_refl _) hY.len B.size
                have own1 := owns_below own bB
                have rowB := row.same (bB.block _ row.lt)
                have BB := B.trans (bB.mono B.size)
                have al := (Below.refl wr.heap.size wr).alloc (Nat.le_refl _) (.cells #[.int .i64 (bn : Int), .slice (some ⟨W.heap.size, 0, none⟩) 4096 4096] 108)
                have bN := Box.new wr #[.int .i64 (bn : Int), .slice (some ⟨W.heap.size, 0, none⟩) 4096 4096] 108
                replace own1 := owns_below own1 al
                replace J2 := J2.below al
                have x2c := x2b.below al
                have x8c := x8b.below al
                have rowC := rowB.same (al.block _ rowB.lt)
                replace BB := BB.trans (al.mono BB.size)
                have hcN : ∀ j u, ([.int .i64 (bn : Int), .slice (some ⟨W.heap.size, 0, none⟩) 4096 4096] : List Value)[j]? = some u → (wr.alloc (.cells #[.int .i64 (bn : Int), .slice (some ⟨W.heap.size, 0, none⟩) 4096 4096] 108)).cell? ((⟨wr.heap.size, 0, none⟩ : Addr).add j) = some u := fun j u hj => by
                  rw [Addr.add_lit, Nat.zero_add, bN.cell j]
                  simpa using hj
                have HY : Hid (DtK (entOf BX k).2 64 Y) := hY
                have hn32' : k ≤ 32 := by omega
                clear rowY bB hY x2b x8b rowB x2 x8 row own hJ B
                go_wp2_with (at_builtin; refine wpList_append_own _ rfl _ _ 38 rfl w.heap.size 108 i0 _ 2 32 Tryz.underlying38 hi hz0 hz1 hz2 rfl (by decide) _ k _ rfl own1 ⟨wr.heap.size, 0, none⟩ 1 1 [.int .i64 (bn : Int), .slice (some ⟨W.heap.size, 0, none⟩) 4096 4096] rfl rfl hcN ?c2 ?c3 ?c4 BB.size ?_)
                case c2 => intro u hu; simp at hu; rcases hu with rfl | rfl <;> rfl
                case c3 => unfold maxLen; omega
                case c4 => omega
                intro v' w4 own4 hg4 _
                have J4 := J2.grown own1 (by decide) hg4
                have B4 := BB.grown hg4 BB.size (fun j e => (owns_block own1 j e).1)
                have x2d : Box w4 w.heap.size #[.int .i64 0, .int .i64 0, .slice none 0 0] 40 := (hg4.block _ x2c.lt (fun e => by
                  obtain ⟨_, cur, hb⟩ := owns_block own1 _ e.symm
                  exact Box.ne hb x2c (by decide) rfl)).trans x2c
                have x8d : Box w4 (w.heap.size + 1) #[.int .i64 (E : Int), .int .i64 (S : Int), .slice av k cw] 40 := (hg4.block _ x8c.lt (fun e => by
                  obtain ⟨_, cur, hb⟩ := owns_block own1 _ e.symm
                  exact Box.ne hb x8c (by decide) rfl)).trans x8c
                have rowD : RowB w4 gb cv BX := rowC.same (hg4.block _ rowC.lt (fun e => by
                  obtain ⟨_, cur, hb⟩ := owns_block own1 _ e.symm
                  obtain ⟨cur2, hb2, _⟩ := rowC
                  exact Box.ne hb2 hb (by decide) rfl))
                obtain ⟨ts, hts⟩ : ∃ ts, ts = qs ++ [⟨(bn : Int), Y, W.heap.size, 4096⟩] := ⟨_, rfl⟩
                have hcells : imgC ts = imgC qs ++ [.int .i64 (bn : Int), .slice (some ⟨W.heap.size, 0, none⟩) 4096 4096] := by rw [hts]; simp [imgC]
                rw [← hcells] at own4
                rw [← hts] at J4
                have HTL : Hid (ts.length = k + 1) := by show ts.length = k + 1; rw [hts, List.length_append, HQL.out]; rfl
                have HTS : Hid (∀ i (h : i < ts.length), (ts[i]).b = ((entOf BX i).1 : Int) ∧ DtK (entOf BX i).2 64 (ts[i]).xs) := by
                  intro i h
                  subst hts
                  by_cases hiq : i < qs.length
                  · rw [List.getElem_append_left hiq]
                    exact HQS.out i hiq
                  · have hik : i = k := by
                      rw [List.length_append, HQL.out] at h
                      simp at h
                      rw [HQL.out] at hiq
                      omega
                    subst hik
                    rw [List.getElem_append_right (by omega)]
                    simp only [HQL.out, Nat.sub_self, List.getElem_cons_zero]
                    exact ⟨by rw [HBN.out], HY.out⟩
                obtain ⟨av4, cw4, rfl⟩ := owns_shape own4
                have c4 := x8d.cell 2
                have f4 := x8d.frozen 2
                have O5 : Hid ((w4.setCell ⟨w.heap.size + 1, 2, none⟩ (.slice av4 (k + 1) cw4)).ownsRow w.heap.size 108 2 (.slice av4 (k + 1) cw4) (k + 1) (imgC ts)) := by
                  refine owns_grown own4 (grown_store _ _ _ _) (fun g h1 h2 => ?_)
                  injection h2 with h2
                  subst h2
                  obtain ⟨_, cur, hb⟩ := owns_block own4 _ h1
                  exact Box.ne hb x8d (by decide) rfl
                have X5 : Box (w4.setCell ⟨w.heap.size + 1, 2, none⟩ (.slice av4 (k + 1) cw4)) (w.heap.size + 1) #[.int .i64 (E : Int), .int .i64 (S : Int), .slice av4 (k + 1) cw4] 40 := by simpa using x8d.store 2 (.slice av4 (k + 1) cw4)
                have X6 : Box (w4.setCell ⟨w.heap.size + 1, 2, none⟩ (.slice av4 (k + 1) cw4)) w.heap.size #[.int .i64 0, .int .i64 0, .slice none 0 0] 40 := (heap_setCell_other w4 ⟨w.heap.size + 1, 2, none⟩ w.heap.size _ (by simp)).trans x2d
                have J5 : Hid (GetJ w.heap.size (w4.setCell ⟨w.heap.size + 1, 2, none⟩ (.slice av4 (k + 1) cw4)) ts) := J4.store x8d (by decide) _
                have R5 : Hid (RowB (w4.setCell ⟨w.heap.size + 1, 2, none⟩ (.slice av4 (k + 1) cw4)) gb cv BX) := rowD.same (heap_setCell_other w4 ⟨w.heap.size + 1, 2, none⟩ gb _ (fun e => by
                  obtain ⟨cur2, hb2, _⟩ := rowD
                  exact Box.ne hb2 x8d (by decide) e))
                have B5 := B4.setCell (p := ⟨w.heap.size + 1, 2, none⟩) (Nat.le_succ _) (.slice av4 (k + 1) cw4)
                clear own1 J2 BB bN al hcN hg4 own4 x2c x8c rowC x2d x8d rowD J4 B4 c2 f2 hcells hts
                go_wp2_with fail
                go_roundw
                case rel => exact ⟨k + 1, _, ts, by omega, by push_cast; rfl, X6, X5, O5.out, J5.out, HTL.out, HTS.out, R5.out, B5⟩
                case measure => simp [intOf]; omega
          · have hke : k = n := by omega
            have hge : Hid (SaidG xs (qs.map fun p => (p.b, p.xs))) := by
              refine ⟨?_, fun i h h' => ?_, fun i h h' => ?_⟩
              · rw [List.length_map, HQL.out, HSE.out, entsOf, List.length_map, List.length_range, hke]
              · have hi' : i < qs.length := by simpa using h
                rw [List.getElem_map]
                have e : (saidEs xs)[i] = entOf BX i := by simp [HSE.out, entsOf]
                rw [e]
                exact (HQS.out i hi').1
              · have hi' : i < qs.length := by simpa using h
                rw [List.getElem_map]
                have e : (saidEs xs)[i] = entOf BX i := by simp [HSE.out, entsOf]
                rw [e]
                exact (HQS.out i hi').2
            have HSL : Hid ((saidEs xs).length = n) := by show (saidEs xs).length = n; rw [HSE.out, entsOf, List.length_map, List.length_range]
            rw [hke] at own x8 HQL
            have hT : Hid (ReadT w E S n av cw qs W) := ReadT.new ⟨x8, own, hJ, B⟩
            have HHD := hge.out.head HL.out
            rw [← HE.out, ← HS.out] at HHD
            have HH : Hid (isHead xs ↔ okGroup (E : Int) (S : Int) (qs.map fun p => (p.b, p.xs)) ∧ headB E S (entL (mark E S) (qs.map fun p => (p.b, p.xs))) = xs) := HHD
            have hil : (qs.map fun p => (p.b, p.xs)).length = n := by rw [List.length_map, HQL.out]
            have HX2 : Hid (Box W w.heap.size #[.int .i64 0, .int .i64 0, .slice none 0 0] 40) := x2
            rw [hke]
            clear hke hlt hk own hJ x8 x2 HHD row hni wn HBX HSE
            by_cases hok : okGroup (E : Int) (S : Int) (qs.map fun p => (p.b, p.xs))
            · have cR : Hid (∀ u, ReadT w E S n av cw qs u → Calls Tryz.prog 63 #[.agg #[.int .i64 (E : Int), .int .i64 (S : Int), .slice av n cw]] u fun r w' => r = .returned (.bool true) ∧ Below u.heap.size u w') := fun u hu => (rright_at E S av n cw _ u hil (hu.imgs HQL.out)).mono fun r w' ⟨q, h1, h2, h3⟩ => ⟨by rw [h1, h2.2 hok], h3⟩
              have cH : Hid (∀ u, ReadT w E S n av cw qs u → Calls Tryz.prog 64 #[.agg #[.int .i64 (E : Int), .int .i64 (S : Int), .slice av n cw]] u fun r w' => ∃ g c, r = .returned (.slice (some ⟨g, 0, none⟩) 4096 c) ∧ RowB w' g c (headB E S (entL (mark E S) (qs.map fun p => (p.b, p.xs)))) ∧ Below u.heap.size u w') := fun u hu => (rhead_at E S av n cw _ u hil (hu.imgs HQL.out) hok).mono fun r w' ⟨v, h1, h2, h3⟩ => by
                obtain ⟨g, c, rfl, _, hrow⟩ := RowB.owns h2 (by omega)
                exact ⟨g, c, h1, hrow, h3⟩
              have hd4 : Hid ((headB E S (entL (mark E S) (qs.map fun p => (p.b, p.xs)))).length = 4096) := headB_length (bodyB_length _ (entL_len hok) (by rw [entL_length]; exact (is_length hok).2))
              obtain ⟨hB, hBd⟩ : ∃ hB, hB = headB E S (entL (mark E S) (qs.map fun p => (p.b, p.xs))) := ⟨_, rfl⟩
              rw [← hBd] at cH HH hd4
              have HOK : Hid (okGroup (E : Int) (S : Int) (qs.map fun p => (p.b, p.xs))) := hok
              clear hBd hok
              by_cases heq : hB = xs
              · have hyes : Hid (isHead xs) := HH.out.2 ⟨HOK.out, heq⟩
                have hbb : (hB == xs) = true := by simp [heq]
                have HBB : Hid ((hB == xs) = true) := hbb
                clear heq hbb HH
                go_wp2_with fail
                go_region_held3 (fun u => u.cell? ⟨w.heap.size + 1, 0, none⟩ = some (.int .i64 (E : Int)) ∧ u.cell? ⟨w.heap.size + 1, 1, none⟩ = some (.int .i64 (S : Int)) ∧ u.cell? ⟨w.heap.size + 1, 2, none⟩ = some (.slice av n cw) ∧ Hid (ReadS w E S n av cw qs u))
                  (first | with_reducible exact ReadT.below ((Below.refl _ W).drew) hT.out | with_reducible exact ReadT.below b (by with_reducible assumption) | with_reducible exact ReadT.put3 X2 (by with_reducible assumption) | with_reducible assumption)
                  (first
                    | (go_at_call 63; refine Calls.mono (cR.out _ (by with_reducible assumption)) ?_; rintro e u1 ⟨rfl, b⟩; have X1 : Hid (Box u1 w.heap.size #[.int .i64 0, .int .i64 0, .slice none 0 0] 40) := (HX2.out.below ((Below.refl _ W).drew)).below b)
                    | (go_at_call 64; refine Calls.mono (cH.out _ (by with_reducible assumption)) ?_; clear b; rintro e u2 ⟨gh, ch, rfl, rowH, b⟩; have X2 := X1.out.below b; have y0 := X2.cell 0; have y1 := X2.cell 1; have y2 := X2.cell 2; have k0 := X2.frozen 0; have k1 := X2.frozen 1; have k2 := X2.frozen 2)
                    | (go_at_call 21; refine Calls.mono (same_at ch cap 4096 4096 _ _ hB xs _ hd4.out HL.out rowH.rd (HR.out.below (show ReadT w E S n av cw qs _ by with_reducible assumption).2.2.2.out.B (Nat.le_refl _))) ?_; rintro e u3 ⟨rfl, rfl⟩; rw [HBB.out]))
                have XF : Box (((u2.setCell ⟨w.heap.size, 0, none⟩ (.int .i64 (E : Int))).setCell ⟨w.heap.size, 1, none⟩ (.int .i64 (S : Int))).setCell ⟨w.heap.size, 2, none⟩ (.slice av n cw)) w.heap.size #[.int .i64 (E : Int), .int .i64 (S : Int), .slice av n cw] 40 := by simpa using ((X2.store 0 (.int .i64 (E : Int))).store 1 (.int .i64 (S : Int))).store 2 (.slice av n cw)
                have d0 := XF.cell 0
                have d1 := XF.cell 1
                have d2 := XF.cell 2
                simp at d0 d1 d2
                have hfin : ReadT w E S n av cw qs (((u2.setCell ⟨w.heap.size, 0, none⟩ (.int .i64 (E : Int))).setCell ⟨w.heap.size, 1, none⟩ (.int .i64 (S : Int))).setCell ⟨w.heap.size, 2, none⟩ (.slice av n cw)) := by with_reducible assumption
                clear y0 y1 y2 k0 k1 k2
                go_wp2_with fail
                refine bodyPost_ret (v := .tuple #[.agg #[.int .i64 (E : Int), .int .i64 (S : Int), .slice av n cw], .bool true]) (by simp [results, Tryz.results66, go_sem, d0, d1, d2]) rfl ?_
                refine .inl ⟨hyes.out, av, cw, qs, ?_, ?_, hfin.2.2.2.out.J, hge.out, hfin.2.2.2.out.B⟩
                · rw [← HE.out, ← HS.out, HSL.out]
                · rw [HSL.out]
                  exact hfin.2.2.2.out.own
              · have hno : Hid (¬ isHead xs) := fun h => heq (HH.out.1 h).2
                have HBB : Hid ((hB == xs) = false) := by show (hB == xs) = false; simp [heq]
                clear heq HH
                go_wp2_with fail
                go_region_held3 (fun u => u.cell? ⟨w.heap.size + 1, 0, none⟩ = some (.int .i64 (E : Int)) ∧ u.cell? ⟨w.heap.size + 1, 1, none⟩ = some (.int .i64 (S : Int)) ∧ u.cell? ⟨w.heap.size + 1, 2, none⟩ = some (.slice av n cw) ∧ Hid (ReadS w E S n av cw qs u))
                  (first | with_reducible exact ReadT.below ((Below.refl _ W).drew) hT.out | with_reducible exact ReadT.below b (by with_reducible assumption) | with_reducible exact ReadT.put3 X2 (by with_reducible assumption) | with_reducible assumption)
                  (first
                    | (go_at_call 63; refine Calls.mono (cR.out _ (by with_reducible assumption)) ?_; rintro e u1 ⟨rfl, b⟩; have X1 : Hid (Box u1 w.heap.size #[.int .i64 0, .int .i64 0, .slice none 0 0] 40) := (HX2.out.below ((Below.refl _ W).drew)).below b)
                    | (go_at_call 64; refine Calls.mono (cH.out _ (by with_reducible assumption)) ?_; clear b; rintro e u2 ⟨gh, ch, rfl, rowH, b⟩; have X2 := X1.out.below b; have y0 := X2.cell 0; have y1 := X2.cell 1; have y2 := X2.cell 2; have k0 := X2.frozen 0; have k1 := X2.frozen 1; have k2 := X2.frozen 2)
                    | (go_at_call 21; refine Calls.mono (same_at ch cap 4096 4096 _ _ hB xs _ hd4.out HL.out rowH.rd (HR.out.below (show ReadT w E S n av cw qs _ by with_reducible assumption).2.2.2.out.B (Nat.le_refl _))) ?_; rintro e u3 ⟨rfl, rfl⟩; rw [HBB.out]))
                have XF : Box (((u2.setCell ⟨w.heap.size, 0, none⟩ (.int .i64 (E : Int))).setCell ⟨w.heap.size, 1, none⟩ (.int .i64 (S : Int))).setCell ⟨w.heap.size, 2, none⟩ (.slice av n cw)) w.heap.size #[.int .i64 (E : Int), .int .i64 (S : Int), .slice av n cw] 40 := by simpa using ((X2.store 0 (.int .i64 (E : Int))).store 1 (.int .i64 (S : Int))).store 2 (.slice av n cw)
                have d0 := XF.cell 0
                have d1 := XF.cell 1
                have d2 := XF.cell 2
                simp at d0 d1 d2
                have hfin : ReadT w E S n av cw qs (((u2.setCell ⟨w.heap.size, 0, none⟩ (.int .i64 (E : Int))).setCell ⟨w.heap.size, 1, none⟩ (.int .i64 (S : Int))).setCell ⟨w.heap.size, 2, none⟩ (.slice av n cw)) := by with_reducible assumption
                clear y0 y1 y2 k0 k1 k2
                go_wp2_with fail
                refine bodyPost_ret (v := .tuple #[.agg #[.int .i64 (E : Int), .int .i64 (S : Int), .slice av n cw], .bool false]) (by simp [results, Tryz.results66, go_sem, d0, d1, d2]) rfl ?_
                exact .inr ⟨hno.out, _, _, _, _, _, rfl, hfin.2.2.2.out.B⟩
            · have hno : Hid (¬ isHead xs) := fun h => hok (HH.out.1 h).1
              have cR : Hid (∀ u, ReadT w E S n av cw qs u → Calls Tryz.prog 63 #[.agg #[.int .i64 (E : Int), .int .i64 (S : Int), .slice av n cw]] u fun r w' => r = .returned (.bool false) ∧ Below u.heap.size u w') := fun u hu => (rright_at E S av n cw _ u hil (hu.imgs HQL.out)).mono fun r w' ⟨q, h1, h2, h3⟩ => ⟨by
                cases q with
                | false => exact h1
                | true => exact absurd (h2.1 rfl) hok, h3⟩
              clear hok HH
              have z0 := hT.out.1
              have z1 := hT.out.2.1
              have z2 := hT.out.2.2.1
              go_wp2_with fail
              first | go_region_with (first
                | (go_at_call 63; refine Calls.mono (cR.out _ (ReadT.below ((Below.refl _ W).drew) hT.out)) ?_; rintro e u1 ⟨rfl, b⟩; have T1 : Hid (ReadT w E S n av cw qs u1) := ReadT.below b (ReadT.below ((Below.refl _ W).drew) hT.out); have q0 := T1.out.1; have q1 := T1.out.2.1; have q2 := T1.out.2.2.1; have X2 : Box u1 w.heap.size #[.int .i64 0, .int .i64 0, .slice none 0 0] 40 := (HX2.out.below ((Below.refl _ W).drew)).below b; have y0 := X2.cell 0; have y1 := X2.cell 1; have y2 := X2.cell 2; have k0 := X2.frozen 0; have k1 := X2.frozen 1; have k2 := X2.frozen 2)) | fail
              all_goals
                have XF : Box (((u1.setCell ⟨w.heap.size, 0, none⟩ (.int .i64 (E : Int))).setCell ⟨w.heap.size, 1, none⟩ (.int .i64 (S : Int))).setCell ⟨w.heap.size, 2, none⟩ (.slice av n cw)) w.heap.size #[.int .i64 (E : Int), .int .i64 (S : Int), .slice av n cw] 40 := by simpa using ((X2.store 0 (.int .i64 (E : Int))).store 1 (.int .i64 (S : Int))).store 2 (.slice av n cw)
                have d0 := XF.cell 0
                have d1 := XF.cell 1
                have d2 := XF.cell 2
                simp at d0 d1 d2
                have hfin : ReadT w E S n av cw qs (((u1.setCell ⟨w.heap.size, 0, none⟩ (.int .i64 (E : Int))).setCell ⟨w.heap.size, 1, none⟩ (.int .i64 (S : Int))).setCell ⟨w.heap.size, 2, none⟩ (.slice av n cw)) := ReadT.put3 X2 T1.out
                clear y0 y1 y2 k0 k1 k2
                go_wp2_with fail
                refine bodyPost_ret (v := .tuple #[.agg #[.int .i64 (E : Int), .int .i64 (S : Int), .slice av n cw], .bool false]) (by simp [results, Tryz.results66, go_sem, d0, d1, d2]) rfl ?_
                exact .inr ⟨hno.out, _, _, _, _, _, rfl, hfin.2.2.2.out.B⟩
      · have hni : (32 : Int) < (n : Int) := by omega
        have hno : Hid (¬ isHead xs) := fun h => by
          have h1 := h.2.1.2.1.1
          rw [List.length_map] at h1
          have : saidEs xs = [] := by
            unfold saidEs
            rw [← HBX.out, ← HN.out, if_neg hn32]
          rw [this] at h1
          simp at h1
        have y0 := x2'.cell 0
        have y1 := x2'.cell 1
        have y2 := x2'.cell 2
        have k0 := x2'.frozen 0
        have k1 := x2'.frozen 1
        have k2 := x2'.frozen 2
        have XF : Box (((wr.setCell ⟨w.heap.size, 0, none⟩ (.int .i64 0)).setCell ⟨w.heap.size, 1, none⟩ (.int .i64 0)).setCell ⟨w.heap.size, 2, none⟩ (.slice none 0 0)) w.heap.size #[.int .i64 0, .int .i64 0, .slice none 0 0] 40 := by simpa using ((x2'.store 0 (.int .i64 0)).store 1 (.int .i64 0)).store 2 (.slice none 0 0)
        have d0 := XF.cell 0
        have d1 := XF.cell 1
        have d2 := XF.cell 2
        simp at d0 d1 d2
        have BF := ((B3.setCell (p := ⟨w.heap.size, 0, none⟩) (Nat.le_refl _) (.int .i64 0)).setCell (p := ⟨w.heap.size, 1, none⟩) (Nat.le_refl _) (.int .i64 0)).setCell (p := ⟨w.heap.size, 2, none⟩) (Nat.le_refl _) (.slice none 0 0)
        go_wp2_with fail
        refine bodyPost_ret (v := .tuple #[.agg #[.int .i64 0, .int .i64 0, .slice none 0 0], .bool false]) (by simp [results, Tryz.results66, go_sem, d0, d1, d2]) rfl ?_
        exact .inr ⟨hno.out, _, _, _, _, _, rfl, BF⟩
theorem rread_at (a : Option Addr) (n cap : Nat) (xs : List UInt8) (w : World) (hl : xs.length = n) (hr : Rd w a xs) (hcap : n ≤ cap) : Calls Tryz.prog 66 #[.slice a n cap] w (ReadR w xs) := by
  by_cases h4 : n = 4096
  · subst h4
    obtain ⟨g, o, rfl, _⟩ := hr (by omega)
    exact rread_in g o cap xs w hl hr hcap
  · exact rread_short a n cap xs w hl h4
end Go.Proofs.YtkhejjddmbegaaaGreat.Rc

/-
  The document's own Head and Stamped; CopyLists of any lists.
-/
namespace Go.Proofs.YtkhejjddmbegaaaGreat.Rc
open Go.RowKit

set_option maxRecDepth 100000 in
set_option maxHeartbeats 1000000 in
theorem rhead_tell (a : Option Addr) (n cap : Nat) (xs : List UInt8) (w : World) (hl : xs.length = n) (hr : Rd w a xs) (hcap : n ≤ cap) : Calls Tryz.prog 43 #[.slice a n cap] w (HeadR w xs) := by
  have c := rread_at a n cap xs w hl hr hcap
  clear hl
  go_enter Tryz.func43, Tryz.ntmps43
  go_wp2_with fail
  refine c.mono ?_
  rintro r w1 (⟨hhd, ah, ch, qs, rfl, _, _, _, hb1⟩ | ⟨hhd, e, s, a', n', c', rfl, hb1⟩)
  · have hx : Hid (isHead xs) := hhd
    clear hhd c
    have bh := Box.new w1 #[.int .i64 (saidE xs : Int), .int .i64 (saidS xs : Int), .slice ah (saidEs xs).length ch] 40
    have B1 := hb1.alloc hb1.size (.cells #[.int .i64 (saidE xs : Int), .int .i64 (saidS xs : Int), .slice ah (saidEs xs).length ch] 40)
    have y0 := bh.cell 0
    have y1 := bh.cell 1
    have y2 := bh.cell 2
    go_wp2_with fail
    go_quiet (fail)
    go_wp2
    refine bodyPost_ret (v := .tuple #[.int .i64 (saidE xs : Int), .int .i64 (saidS xs : Int), .int .i64 ((saidEs xs).length : Int), .bool true]) (by simp [results, Tryz.results43, go_sem]) rfl ?_
    exact .inl ⟨hx.out, rfl, ⟨B1.os, B1.tape, B1.output, B1.size, B1.block⟩⟩
  · have hx : Hid (¬ isHead xs) := hhd
    clear hhd c
    have B1 := hb1.alloc hb1.size (.cells #[.int .i64 e, .int .i64 s, .slice a' n' c'] 40)
    go_wp2_with fail
    refine bodyPost_ret (v := .tuple #[.int .i64 0, .int .i64 0, .int .i64 0, .bool false]) (by simp [results, Tryz.results43, go_sem]) rfl ?_
    exact .inr ⟨hx.out, rfl, B1⟩

/-- each sector begins with the stamp, byte by byte -/
theorem marked_iff (xs M : List UInt8) (_hl : xs.length = 4096) (hM : M.length = 8) : allMarked xs M = true ↔ ∀ i, i < 4096 → i % 512 < 8 → xs[i]? = M[i % 512]? := by
  unfold allMarked
  rw [List.all_eq_true]
  constructor
  · intro h i hi h8
    have h1 := h ⟨i / 512, by omega⟩ (List.mem_finRange _)
    have h2 : (sec xs (i / 512)).take 8 = M := by simpa using h1
    have h3 := congrArg (fun l : List UInt8 => l[i % 512]?) h2
    rw [List.getElem?_take, if_pos h8, sec_get, if_pos (by omega), show i / 512 * 512 + i % 512 = i by omega] at h3
    exact h3
  · intro h x _
    have : (sec xs x.val).take 8 = M := by
      refine List.ext_getElem? (fun i => ?_)
      rw [List.getElem?_take]
      by_cases hi : i < 8
      · have hx := x.isLt
        rw [if_pos hi, sec_get, if_pos (by omega), h _ (by omega) (by omega), show (x.val * 512 + i) % 512 = i by omega]
      · rw [if_neg hi, List.getElem?_eq_none (by omega)]
    simp [this]

end Go.Proofs.YtkhejjddmbegaaaGreat.Rc

/-
  A group put together again, byte by byte: no walk here.
-/
namespace Go.Proofs.YtkhejjddmbegaaaGreat.Rc

/-- the hidden bytes, and of the block's own ones the first t -/
structure UhK (H b : List UInt8) (t : Nat) (Y : List UInt8) : Prop where
  len : Y.length = 4096
  at_ : ∀ i, i < 4096 → Y[i]? = if i % 512 < 8 then H[i / 512 * 8 + i % 512]? else if i < t then b[i]? else some 0
theorem UhK.start {H b Y : List UInt8} (h : DtK H 64 Y) : UhK H b 0 Y := ⟨h.len, fun i hi => by
  rw [h.at_ i hi]
  by_cases q : i % 512 < 8
  · rw [if_pos ⟨q, by omega⟩, if_pos q]
  · rw [if_neg (fun e => q e.1), if_neg q, if_neg (by omega)]⟩
theorem UhK.skip {H b Y : List UInt8} {t : Nat} (h : UhK H b t Y) (ht : t % 512 < 8) : UhK H b (t + 1) Y := ⟨h.len, fun i hi => by
  rw [h.at_ i hi]
  by_cases q : i % 512 < 8
  · rw [if_pos q, if_pos q]
  · rw [if_neg q, if_neg q]
    by_cases e : i < t
    · rw [if_pos e, if_pos (by omega)]
    · have : i ≠ t := fun e => by subst e; exact q ht
      rw [if_neg e, if_neg (by omega)]⟩
theorem UhK.put {H b Y : List UInt8} {t : Nat} (h : UhK H b t Y) (ht : t < 4096) (h8 : ¬ t % 512 < 8) (v : UInt8) (hv : b[t]? = some v) : UhK H b (t + 1) (Y.set t v) := ⟨by simpa using h.len, fun i hi => by
  rw [List.getElem?_set]
  by_cases e : t = i
  · subst e
    rw [if_pos rfl, if_pos (by rw [h.len]; exact ht), if_neg h8, if_pos (by omega), hv]
  · rw [if_neg e, h.at_ i hi]
    by_cases q : i % 512 < 8
    · rw [if_pos q, if_pos q]
    · rw [if_neg q, if_neg q]
      by_cases e2 : i < t
      · rw [if_pos e2, if_pos (by omega)]
      · rw [if_neg e2, if_neg (by omega)]⟩
theorem cat_get (f : Fin 8 → List UInt8) (hf : ∀ x, (f x).length = 512) (i : Nat) (hi : i < 4096) : (cat f 8)[i]? = (f ⟨i / 512, by omega⟩)[i % 512]? := by
  have h := sec_cat f hf ⟨i / 512, by omega⟩
  have h2 := sec_get (cat f 8) (i / 512) (i % 512)
  rw [if_pos (by omega), show i / 512 * 512 + i % 512 = i by omega] at h2
  rw [← h2]
  have h' : sec (cat f 8) (i / 512) = f ⟨i / 512, by omega⟩ := h
  rw [h']
theorem UhK.done {H b Y : List UInt8} (h : UhK H b 4096 Y) (hH : H.length = 64) (hb : b.length = 4096) : Y = (unhideTo b H (List.finRange 8)).1 := by
  rw [unhide_cat b H hb hH]
  have hf : ∀ x : Fin 8, ((H.drop (x.val * 8)).take 8 ++ (sec b x.val).drop 8).length = 512 := fun x => by
    have hx := x.isLt
    have := sec_length b x.val hb x.isLt
    rw [List.length_append, List.length_take, List.length_drop, List.length_drop, this, hH]
    omega
  refine List.ext_getElem? (fun i => ?_)
  by_cases hi : i < 4096
  · rw [h.at_ i hi, cat_get _ hf i hi]
    have l8 : ((H.drop (i / 512 * 8)).take 8).length = 8 := by rw [List.length_take, List.length_drop, hH]; omega
    by_cases q : i % 512 < 8
    · rw [if_pos q, List.getElem?_append_left (by rw [l8]; exact q), List.getElem?_take, if_pos q, List.getElem?_drop]
    · rw [if_neg q, if_pos hi, List.getElem?_append_right (by rw [l8]; omega)]
      show b[i]? = ((sec b (i / 512)).drop 8)[i % 512 - ((H.drop (i / 512 * 8)).take 8).length]?
      rw [l8, List.getElem?_drop, sec_get, if_pos (by omega), show i / 512 * 512 + (8 + (i % 512 - 8)) = i by omega]
  · have lc := cat_length (fun x : Fin 8 => (H.drop (x.val * 8)).take 8 ++ (sec b x.val).drop 8) 512 hf 8 (by omega)
    rw [List.getElem?_eq_none (by rw [h.len]; omega), List.getElem?_eq_none (by rw [lc]; omega)]
/-- its hidden bytes are still those -/
theorem UhK.hidden {H b Y : List UInt8} {t : Nat} (h : UhK H b t Y) (hl : H.length = 64) (M : List UInt8) (hM : M.length = 8) : hdB M Y = H := by
  rw [hdB_cat M Y h.len hM]
  refine Eq.trans ?_ (cat_eight H hl)
  congr 1
  funext x
  refine List.ext_getElem? (fun i => ?_)
  rw [List.getElem?_take, List.getElem?_take]
  by_cases hi : i < 8
  · have hx := x.isLt
    rw [if_pos hi, if_pos hi, sec_get, if_pos (by omega), h.at_ _ (by omega), if_pos (by omega), List.getElem?_drop]
    rw [show (x.val * 512 + i) / 512 * 8 + (x.val * 512 + i) % 512 = x.val * 8 + i by omega]
  · rw [if_neg hi, if_neg hi]
/-- stamped again, it is the block, if that bore the stamp -/
theorem UhK.stamped {H b Y M : List UInt8} (h : UhK H b 4096 Y) (hb : b.length = 4096) (hM : M.length = 8) (hs : allMarked b M = true) : stB M Y = b := by
  rw [stB_cat M Y h.len hM]
  have hf : ∀ x : Fin 8, (M ++ (sec Y x.val).drop 8).length = 512 := fun x => by
    have := sec_length Y x.val h.len x.isLt
    rw [List.length_append, List.length_drop, this, hM]
  refine List.ext_getElem? (fun i => ?_)
  by_cases hi : i < 4096
  · rw [cat_get _ hf i hi]
    by_cases q : i % 512 < 8
    · rw [List.getElem?_append_left (by rw [hM]; exact q)]
      unfold allMarked at hs
      rw [List.all_eq_true] at hs
      have h1 := hs ⟨i / 512, by omega⟩ (List.mem_finRange _)
      have h2 : (sec b (i / 512)).take 8 = M := by simpa using h1
      have h3 := congrArg (fun l : List UInt8 => l[i % 512]?) h2
      rw [List.getElem?_take, if_pos q, sec_get, if_pos (by omega), show i / 512 * 512 + i % 512 = i by omega] at h3
      exact h3.symm
    · rw [List.getElem?_append_right (by rw [hM]; omega), hM, List.getElem?_drop, sec_get, if_pos (by omega)]
      show Y[i / 512 * 512 + (8 + (i % 512 - 8))]? = b[i]?
      rw [show i / 512 * 512 + (8 + (i % 512 - 8)) = i by omega, h.at_ i hi, if_neg q, if_pos hi]
  · have lc := cat_length (fun x : Fin 8 => M ++ (sec Y x.val).drop 8) 512 hf 8 (by omega)
    rw [List.getElem?_eq_none (by rw [lc]; omega), List.getElem?_eq_none (by omega)]
/-- the group put together -/
structure UhG (ls : List (List UInt8)) (is : List (Int × List UInt8)) : Prop where
  len : is.length = (saidEs (ls[0]?.getD [])).length
  blk : ∀ i (h : i < is.length) (h' : i < (saidEs (ls[0]?.getD [])).length), (is[i]).1 = (((saidEs (ls[0]?.getD []))[i]).1 : Int)
  dat : ∀ i (h : i < is.length) (h' : i < (saidEs (ls[0]?.getD [])).length), UhK ((saidEs (ls[0]?.getD []))[i]).2 (ls[i + 1]?.getD []) 4096 (is[i]).2
section
variable {ls : List (List UInt8)} {is : List (Int × List UInt8)} (h : UhG ls is) (hh : isHead (ls[0]?.getD [])) (hn : ls.length = (saidEs (ls[0]?.getD [])).length + 1) (h4 : ∀ j, j < (saidEs (ls[0]?.getD [])).length → (ls[j + 1]?.getD []).length = 4096)
include h
theorem UhG.map : is.map (·.1) = (saidEs (ls[0]?.getD [])).map fun e => (e.1 : Int) := by
  refine List.ext_getElem (by simp [h.len]) (fun i h1 h2 => ?_)
  simp only [List.getElem_map]
  exact h.blk i (by simpa using h1) (by simpa using h2)
include hh
theorem UhG.ok : okGroup (saidE (ls[0]?.getD [])) (saidS (ls[0]?.getD [])) is := by
  refine ⟨by rw [h.map]; exact hh.2.1, fun i hi => ?_⟩
  obtain ⟨j, hj, rfl⟩ := List.getElem_of_mem hi
  exact (h.dat j hj (by rw [← h.len]; exact hj)).len
theorem UhG.ents (M : List UInt8) (hM : M.length = 8) : entL M is = saidEs (ls[0]?.getD []) := by
  unfold entL
  refine List.ext_getElem (by simp [h.len]) (fun i h1 h2 => ?_)
  have hi : i < is.length := by simpa using h1
  rw [List.getElem_map, h.blk i hi h2, (h.dat i hi h2).hidden (saidEs_len _ hh.1 _ (List.getElem_mem h2)) M hM, Int.toNat_natCast]
include hn h4
theorem UhG.grp : isGrp ls ↔ putL (saidE (ls[0]?.getD [])) (saidS (ls[0]?.getD [])) is = ls := by
  have h0 : 0 < ls.length := by omega
  constructor
  · intro hg
    refine List.ext_getElem (by rw [putL_length, h.len, hn]) (fun i h1 h2 => ?_)
    cases i with
    | zero =>
      have e0 : (putL (saidE (ls[0]?.getD [])) (saidS (ls[0]?.getD [])) is)[0] = headB (saidE (ls[0]?.getD [])) (saidS (ls[0]?.getD [])) (entL (mark (saidE (ls[0]?.getD [])) (saidS (ls[0]?.getD []))) is) := rfl
      rw [e0, h.ents hh _ (mark_length _ _), ← hh.2.2]
      simp [h0]
    | succ j =>
      have hj : j < is.length := by rw [putL_length] at h1; omega
      have hj' : j < (saidEs (ls[0]?.getD [])).length := by rw [← h.len]; exact hj
      have e1 : (putL (saidE (ls[0]?.getD [])) (saidS (ls[0]?.getD [])) is)[j + 1] = stB (mark (saidE (ls[0]?.getD [])) (saidS (ls[0]?.getD []))) (is[j]).2 := by simp [putL]
      have e2 : ls[j + 1]?.getD [] = ls[j + 1] := by simp [h2]
      have hs := hg.2.2.2 j hj'
      unfold stampedB at hs
      simp only [Bool.and_eq_true] at hs
      have hst := h.dat j hj hj'
      have hs3 := hs.2.2
      rw [Int.toNat_natCast, Int.toNat_natCast] at hs3
      rw [e1, hst.stamped (h4 j hj') (mark_length _ _) hs3, e2]
  · intro e
    have := put_grp (h.ok hh)
    rwa [e] at this
omit hn in
theorem UhG.imgs : imgsTo ls (saidEs (ls[0]?.getD [])) (saidEs (ls[0]?.getD [])).length = is := by
  refine List.ext_getElem (by simp [imgsTo, h.len]) (fun j h1 h2 => ?_)
  have hj' : j < (saidEs (ls[0]?.getD [])).length := by rw [← h.len]; exact h2
  have e9 : (imgsTo ls (saidEs (ls[0]?.getD [])) (saidEs (ls[0]?.getD [])).length)[j] = imgOf ls (saidEs (ls[0]?.getD [])) j := by simp [imgsTo]
  rw [e9]
  unfold imgOf
  have e2 : (saidEs (ls[0]?.getD []))[j]?.getD (0, []) = (saidEs (ls[0]?.getD []))[j] := by simp [hj']
  rw [e2, ← (h.dat j h2 hj').done (saidEs_len _ hh.1 _ (List.getElem_mem hj')) (h4 j hj'), ← h.blk j h2 hj']
end
end Go.Proofs.YtkhejjddmbegaaaGreat.Rc

/-
  The document's own Get, of any blocks.
-/
namespace Go.Proofs.YtkhejjddmbegaaaGreat.Rc
open Go.RowKit

/-- images in memory of their own -/
def OwnIs (W : World) (B : Nat) (a : Option Addr) (m c : Nat) (is : List (Int × List UInt8)) : Prop := ∃ qs : List GG, W.ownsRow B 108 2 (.slice a m c) m (imgC qs) ∧ GetJ B W qs ∧ qs.map (fun p => (p.b, p.xs)) = is ∧ qs.length = m
/-- what Get tells -/
def RGetR (w : World) (ls : List (List UInt8)) (r : Ending) (w' : World) : Prop :=
  (isGrp ls ∧ ∃ a c, r = .returned (.tuple #[.agg #[.int .i64 (saidE (ls[0]?.getD []) : Int), .int .i64 (saidS (ls[0]?.getD []) : Int), .slice a (saidEs (ls[0]?.getD [])).length c], .int .i64 0]) ∧ OwnIs w' w.heap.size a (saidEs (ls[0]?.getD [])).length c (imgsTo ls (saidEs (ls[0]?.getD [])) (saidEs (ls[0]?.getD [])).length) ∧ Below w.heap.size w w') ∨
  (¬ isGrp ls ∧ r = .returned (.tuple #[.agg #[.int .i64 0, .int .i64 0, .slice none 0 0], .int .i64 80]) ∧ Below w.heap.size w w')
/-- one of the images with other bytes -/
def setX (qs : List GG) (k : Nat) (Y : List UInt8) : List GG := qs.modify k fun p => { p with xs := Y }
theorem setX_length (qs : List GG) (k : Nat) (Y : List UInt8) : (setX qs k Y).length = qs.length := by simp [setX]
theorem setX_at (qs : List GG) (k : Nat) (Y : List UInt8) (h : k < qs.length) : (setX qs k Y)[k]'(by rw [setX_length]; exact h) = { qs[k] with xs := Y } := by simp [setX]
theorem setX_other (qs : List GG) (k i : Nat) (Y : List UInt8) (h : i < qs.length) (hne : i ≠ k) : (setX qs k Y)[i]'(by rw [setX_length]; exact h) = qs[i] := by
  unfold setX
  rw [List.getElem_modify, if_neg (fun e => hne e.symm)]
theorem setX_self (qs : List GG) (k : Nat) (h : k < qs.length) : setX qs k (qs[k]).xs = qs := by
  refine List.ext_getElem (setX_length _ _ _) (fun i h1 h2 => ?_)
  by_cases e : i = k
  · subst e
    rw [setX_at _ _ _ h]
  · rw [setX_other _ _ _ _ h2 e]
theorem setX_c (qs : List GG) (k : Nat) (Y : List UInt8) : imgC (setX qs k Y) = imgC qs := by
  unfold imgC setX
  induction qs generalizing k with
  | nil => cases k <;> rfl
  | cons p qs ih =>
    cases k with
    | zero => rfl
    | succ k =>
      simp only [List.modify_succ_cons, List.flatMap_cons]
      rw [ih k]
theorem setX_byte (qs : List GG) (k j : Nat) (Y : List UInt8) (v : UInt8) : byteP (setX qs k Y) k j v = setX qs k (Y.set j v) := by
  unfold byteP setX
  refine List.ext_getElem? (fun i => ?_)
  simp only [List.getElem?_modify]
  cases qs[i]? with
  | none => simp
  | some p => by_cases e : k = i <;> simp [e]

set_option maxRecDepth 100000 in
theorem rget_none (a : Option Addr) (cap : Nat) (w : World) : Calls Tryz.prog 44 #[.slice a 0 cap] w (RGetR w []) := by
  have x2 := Box.new w #[.int .i64 0, .int .i64 0, .slice none 0 0] 40
  have B2 := (Below.refl w.heap.size w).alloc (Nat.le_refl _) (.cells #[.int .i64 0, .int .i64 0, .slice none 0 0] 40)
  go_enter Tryz.func44, Tryz.ntmps44
  go_wp2_with fail
  refine bodyPost_ret (v := .tuple #[.agg #[.int .i64 0, .int .i64 0, .slice none 0 0], .int .i64 80]) (by simp [results, Tryz.results44, go_sem]) rfl ?_
  exact .inr ⟨fun h => by have := h.1; simp at this, rfl, B2⟩
/-- the empty answer, in its cell -/
theorem zeros_back {u w : World} (x2 : Box u w.heap.size #[.int .i64 0, .int .i64 0, .slice none 0 0] 40) (B : Below w.heap.size w u) :
    Box (((u.setCell ⟨w.heap.size, 0, none⟩ (.int .i64 0)).setCell ⟨w.heap.size, 1, none⟩ (.int .i64 0)).setCell ⟨w.heap.size, 2, none⟩ (.slice none 0 0)) w.heap.size #[.int .i64 0, .int .i64 0, .slice none 0 0] 40 ∧
    Below w.heap.size w (((u.setCell ⟨w.heap.size, 0, none⟩ (.int .i64 0)).setCell ⟨w.heap.size, 1, none⟩ (.int .i64 0)).setCell ⟨w.heap.size, 2, none⟩ (.slice none 0 0)) :=
  ⟨by simpa using ((x2.store 0 (.int .i64 0)).store 1 (.int .i64 0)).store 2 (.slice none 0 0), ((B.setCell (p := ⟨w.heap.size, 0, none⟩) (Nat.le_refl _) _).setCell (p := ⟨w.heap.size, 1, none⟩) (Nat.le_refl _) _).setCell (p := ⟨w.heap.size, 2, none⟩) (Nat.le_refl _) _⟩

/-- images of one's own stay when a cell of a group's box is written -/
theorem ownJ_put {u : World} {B m c g j : Nat} {a : Option Addr} {qs : List GG} {v : Value} {cs : Array Value} (own : u.ownsRow B 108 2 (.slice a m c) m (imgC qs)) (J : GetJ B u qs) (hb : Box u g cs 40) :
    (u.setCell ⟨g, j, none⟩ v).ownsRow B 108 2 (.slice a m c) m (imgC qs) ∧ GetJ B (u.setCell ⟨g, j, none⟩ v) qs :=
  ⟨owns_grown own (grown_store _ _ _ _) (fun k h1 h2 => by
    injection h2 with h2
    subst h2
    obtain ⟨_, cur, hc⟩ := owns_block own _ h1
    exact Box.ne hc hb (by decide) rfl), J.store hb (by decide) v⟩

set_option maxRecDepth 100000 in
set_option maxHeartbeats 8000000 in
theorem rget_in (a : Option Addr) (n cap : Nat) (ls : List (List UInt8)) (w : World) (hl : ls.length = n) (h0 : 0 < n) (hn : n ≤ 1000000000) (hL : Lsts w a ls) : Calls Tryz.prog 44 #[.slice a n cap] w (RGetR w ls) := by
  have x2 := Box.new w #[.int .i64 0, .int .i64 0, .slice none 0 0] 40
  have B2 := (Below.refl w.heap.size w).alloc (Nat.le_refl _) (.cells #[.int .i64 0, .int .i64 0, .slice none 0 0] 40)
  obtain ⟨b, o, rfl, hc⟩ := hL (by omega)
  obtain ⟨x, cx, g1, g2, g3, g4, g5⟩ := hc 0 (by omega)
  have lb : b < w.heap.size := block_lt_of_cell g1
  have HLS : Hid (∀ j (h : j < ls.length), LstAt w b (o + j) ls[j]) := hc
  have e0 : ls[0]?.getD [] = ls[0]'(by omega) := by simp [show 0 < ls.length by omega]
  have HL : Hid (ls.length = n) := hl
  obtain ⟨h0l, hh0⟩ : ∃ z, z = ls[0]?.getD [] := ⟨_, rfl⟩
  rw [← e0, ← hh0] at g1 g2 g5
  have HH0 : Hid (h0l = ls[0]?.getD []) := hh0
  have cR := rread_at x h0l.length cx h0l (w.alloc (.cells #[.int .i64 0, .int .i64 0, .slice none 0 0] 40)) rfl (g5.below B2 (Nat.le_refl _)) g2
  rw [Nat.add_zero] at g1
  rw [← B2.cell (p := ⟨b, o, none⟩) lb] at g1
  have hni : ¬ (n : Int) = 0 := by omega
  have hn0 : ((n : Int) == 0) = false := by simp; omega
  clear hl hL hc hh0 e0 g2 g3 g4 g5
  go_enter Tryz.func44, Tryz.ntmps44
  go_wp2_with fail
  refine cR.mono ?_
  clear cR
  rintro r w1 (⟨hhd, a4, c4, qs, rfl, own, hJ, hSG, b1⟩ | ⟨hhd, e, s, a', n', c', rfl, b1⟩)
  · have HHD : Hid (isHead h0l) := hhd
    have HSG : Hid (SaidG h0l (qs.map fun p => (p.b, p.xs))) := hSG
    obtain ⟨m, hm⟩ : ∃ m, m = (saidEs h0l).length := ⟨_, rfl⟩
    have HM : Hid (m = (saidEs h0l).length) := hm
    rw [← hm] at own ⊢
    have h32 : 1 ≤ m ∧ m ≤ 32 := by
      have := hhd.2.1.2.1
      rw [List.length_map, ← hm] at this
      exact this
    obtain ⟨E, hE⟩ : ∃ E, E = saidE h0l := ⟨_, rfl⟩
    obtain ⟨S, hS⟩ : ∃ S, S = saidS h0l := ⟨_, rfl⟩
    rw [← hE, ← hS]
    have HE : Hid (E = saidE h0l) := hE
    have HS : Hid (S = saidS h0l) := hS
    clear hhd hSG hm hE hS g1
    have ba := (Below.refl w1.heap.size w1).alloc (Nat.le_refl _) (.cells #[.int .i64 (E : Int), .int .i64 (S : Int), .slice a4 m c4] 40)
    have x4 := Box.new w1 #[.int .i64 (E : Int), .int .i64 (S : Int), .slice a4 m c4] 40
    have x2b := (x2.below b1).below ba
    have B3 := (B2.trans (b1.mono B2.size)).trans (ba.mono (Nat.le_trans B2.size b1.size))
    have own3 := owns_base (owns_below own ba) B2.size
    have hJ3 : GetJ w.heap.size (w1.alloc (.cells #[.int .i64 (E : Int), .int .i64 (S : Int), .slice a4 m c4] 40)) qs := ⟨fun p hp => by
      obtain ⟨q1, q2, q3⟩ := (hJ.below ba).rows p hp
      exact ⟨q1, Nat.le_trans B2.size q2, q3⟩, hJ.apart⟩
    obtain ⟨G4, hG4⟩ : ∃ g, g = w1.heap.size := ⟨_, rfl⟩
    obtain ⟨W2, hW2⟩ : ∃ u, u = w1.alloc (.cells #[.int .i64 (E : Int), .int .i64 (S : Int), .slice a4 m c4] 40) := ⟨_, rfl⟩
    rw [← hG4, ← hW2] at x4
    rw [← hW2] at x2b B3 own3 hJ3
    have lG4 : w.heap.size < G4 := by
      rw [hG4]
      have h1 := b1.size
      have h2 := x2.lt
      omega
    have HG : Hid (G4 = w1.heap.size) := hG4
    have HW : Hid (W2 = w1.alloc (.cells #[.int .i64 (E : Int), .int .i64 (S : Int), .slice a4 m c4] 40)) := hW2
    clear hG4 hW2 x2 B2 own hJ b1 ba
    have z2 := x4.cell 2
    go_upto_region 4 with fail
    rw [← HW.out, ← HG.out]
    clear HW HG
    by_cases hnm : n = m + 1
    · have hni2 : (n : Int) = (m : Int) + 1 := by omega
      have hnb : ((n : Int) != (m : Int) + 1) = false := by simp [hni2]
      have HNM : Hid (n = m + 1) := hnm
      clear hnm hni2
      have hlq : qs.length = m := by
        have := HSG.out.len
        rw [List.length_map, ← HM.out] at this
        exact this
      have HBL : Hid (∀ i (h : i < qs.length) (h' : i < (saidEs h0l).length), (qs[i]).b = (((saidEs h0l)[i]).1 : Int)) := fun i h h' => by
        have := HSG.out.blk i (by simpa using h) h'
        simpa using this
      have HDT : Hid (∀ i (h : i < qs.length) (h' : i < (saidEs h0l).length), DtK ((saidEs h0l)[i]).2 64 (qs[i]).xs) := fun i h h' => by
        have := HSG.out.dat i (by simpa using h) h'
        simpa using this
      have HLQ : Hid (qs.length = m) := hlq
      clear hlq HSG
      go_wp2_with fail
      clear hnb
      go_loopw [6] (fun v u => ∃ (k : Nat) (ts : List GG), k ≤ m ∧ v = .int .i64 (k : Int) ∧ Box u w.heap.size #[.int .i64 0, .int .i64 0, .slice none 0 0] 40 ∧ Box u G4 #[.int .i64 (E : Int), .int .i64 (S : Int), .slice a4 m c4] 40 ∧ u.ownsRow w.heap.size 108 2 (.slice a4 m c4) m (imgC ts) ∧ GetJ w.heap.size u ts ∧ ts.length = m ∧ (∀ i (h : i < ts.length) (h' : i < (saidEs h0l).length), (ts[i]).b = (((saidEs h0l)[i]).1 : Int)) ∧
          (∀ i (h : i < ts.length) (h' : i < (saidEs h0l).length), i < k → (ls[i + 1]?.getD []).length = 4096 ∧ UhK ((saidEs h0l)[i]).2 (ls[i + 1]?.getD []) 4096 (ts[i]).xs) ∧ (∀ i (h : i < ts.length) (h' : i < (saidEs h0l).length), k ≤ i → DtK ((saidEs h0l)[i]).2 64 (ts[i]).xs) ∧ Below w.heap.size w u) (fun v _ => m - (intOf v).toNat)
      case atStart => exact ⟨0, qs, Nat.zero_le _, rfl, x2b, x4, own3, hJ3, HLQ.out, HBL.out, fun i h h' hh => by omega, fun i h h' _ => HDT.out i h h', B3⟩
      case round =>
        clear x2b x4 own3 hJ3 B3 z2 HBL HDT HLQ qs
        obtain ⟨k, qs, hk, rfl, x2, x4, own, hJ, hlq, hbl, hdn, hto, B⟩ := hrel
        have HLQ : Hid (qs.length = m) := hlq
        have HBL : Hid (∀ i (h : i < qs.length) (h' : i < (saidEs h0l).length), (qs[i]).b = (((saidEs h0l)[i]).1 : Int)) := hbl
        have HDN : Hid (∀ i (h : i < qs.length) (h' : i < (saidEs h0l).length), i < k → (ls[i + 1]?.getD []).length = 4096 ∧ UhK ((saidEs h0l)[i]).2 (ls[i + 1]?.getD []) 4096 (qs[i]).xs) := hdn
        have HTO : Hid (∀ i (h : i < qs.length) (h' : i < (saidEs h0l).length), k ≤ i → DtK ((saidEs h0l)[i]).2 64 (qs[i]).xs) := hto
        clear hlq hbl hdn hto
        have z2 := x4.cell 2
        by_cases hlt : k < m
        · have hkl : k + 1 < ls.length := by rw [HL.out, HNM.out]; omega
          have hkq : k < qs.length := by rw [HLQ.out]; exact hlt
          have hke : k < (saidEs h0l).length := by rw [← HM.out]; exact hlt
          obtain ⟨x, cx, g1, g2, g3, g4, g5⟩ := HLS.out (k + 1) hkl
          have lb : b < w.heap.size := block_lt_of_cell g1
          rw [← B.cell (p := ⟨b, o + (k + 1), none⟩) lb] at g1
          have hbk : Hid (ls[k + 1]?.getD [] = ls[k + 1]'hkl) := by show _ = _; simp [hkl]
          have HD0 : Hid (UhK ((saidEs h0l)[k]).2 (ls[k + 1]'hkl) 0 (qs[k]).xs) := UhK.start (HTO.out k hkq hke (Nat.le_refl _))
          generalize (ls[k + 1]'hkl) = bk at g1 g2 g5 hbk HD0
          have hki : (k : Int) < (m : Int) := by omega
          have hkn : (k : Int) + 1 < (n : Int) := by have := HNM.out; omega
          have hk0 : (0 : Int) ≤ (k : Int) + 1 := by omega
          by_cases h4 : bk.length = 4096
          · rw [h4] at g1 g2
            have H4 : Hid (bk.length = 4096) := h4
            have HRB : Hid (Rd w x bk) := g5
            obtain ⟨gb, ob, rfl, hcb⟩ := g5 (by omega)
            obtain ⟨ga, rfl, lga, ⟨cura, bxa⟩, hca⟩ := owns_cells own (by omega)
            have cA : Hid (∀ ts : List GG, ts.length = m → imgC ts = imgC qs → ∀ u : World, u.ownsRow w.heap.size 108 2 (.slice (some ⟨ga, 0, none⟩) m c4) m (imgC ts) → u.cell? ⟨ga, k * 2 + 1, none⟩ = some (.slice (some ⟨(qs[k]).h, 0, none⟩) 4096 (qs[k]).c)) := fun ts _ hts u hu => by
              obtain ⟨ga', he', _, _, hc'⟩ := owns_cells hu (by omega)
              obtain rfl : ga = ga' := by simpa using he'
              rw [hc' _ (by omega), hts, (imgC_at qs k hkq).2]
            clear h4 hcb g2 g3 g4 g5 hca bxa
            have hself := setX_self qs k hkq
            have X2 : Hid (Box wr w.heap.size #[.int .i64 0, .int .i64 0, .slice none 0 0] 40) := x2
            go_wp2_with fail
            go_loopw [8] (fun v u => ∃ (t : Nat) (Y : List UInt8), t ≤ 4096 ∧ v = .int .i64 (t : Int) ∧ Box u w.heap.size #[.int .i64 0, .int .i64 0, .slice none 0 0] 40 ∧ Box u G4 #[.int .i64 (E : Int), .int .i64 (S : Int), .slice (some ⟨ga, 0, none⟩) m c4] 40 ∧ u.ownsRow w.heap.size 108 2 (.slice (some ⟨ga, 0, none⟩) m c4) m (imgC (setX qs k Y)) ∧ GetJ w.heap.size u (setX qs k Y) ∧ UhK ((saidEs h0l)[k]).2 bk t Y ∧ Below w.heap.size w u) (fun v _ => 4096 - (intOf v).toNat)
            case atStart => exact ⟨0, (qs[k]).xs, by omega, rfl, x2, x4, by rw [hself]; exact own, by rw [hself]; exact hJ, HD0.out, B⟩
            case round =>
              clear x2 x4 own hJ B g1 z2 hself HD0 X2
              obtain ⟨t, Y, ht, rfl, x2, x4, own, hJ, hY, B⟩ := hrel
              by_cases htl : t < 4096
              · have hti : (t : Int) < 4096 := by omega
                by_cases h8 : t % 512 < 8
                · have hi8 : ¬ (8 : Int) ≤ (t : Int) % 512 := by omega
                  have HY : Hid (UhK ((saidEs h0l)[k]).2 bk (t + 1) Y) := hY.skip h8
                  clear h8 hY
                  go_wp2_with fail
                  go_roundw
                  case rel => exact ⟨t + 1, Y, by omega, by push_cast; rfl, x2, x4, own, hJ, HY.out, B⟩
                  case measure => simp [intOf]; omega
                · have hi8 : (8 : Int) ≤ (t : Int) % 512 := by omega
                  have hsl := setX_length qs k Y
                  have hkx : k < (setX qs k Y).length := by rw [hsl]; exact hkq
                  have hat := setX_at qs k Y hkq
                  have c1 := cA.out (setX qs k Y) (by rw [hsl, HLQ.out]) (setX_c _ _ _) wr own
                  have z2 := x4.cell 2
                  obtain ⟨gb', ob', he, hcb⟩ := HRB.out (by rw [H4.out]; omega)
                  obtain ⟨rfl, rfl⟩ : gb = gb' ∧ ob = ob' := by simpa using he
                  have ct := hcb t (by rw [H4.out]; exact htl)
                  have lgb : gb < w.heap.size := block_lt_of_cell ct
                  rw [← B.cell (p := ⟨gb, ob + t, none⟩) lgb] at ct
                  have hv : Hid (bk[t]? = some (bk[t]'(by rw [H4.out]; exact htl))) := List.getElem?_eq_getElem _
                  obtain ⟨q1, q2, q3⟩ := hJ.rows _ (List.getElem_mem hkx)
                  rw [hat] at q1 q2 q3
                  dsimp only at q1 q2 q3
                  obtain ⟨cd, fd⟩ := q1.cellAt (j := t) (by rw [q3]; exact htl)
                  have JB := hJ.byte k hkx t htl (bk[t]'(by rw [H4.out]; exact htl))
                  rw [setX_byte] at JB
                  have hat2 : ((setX qs k Y)[k]'hkx).h = (qs[k]).h := by rw [hat]
                  rw [hat2] at JB
                  generalize (bk[t]'(by rw [H4.out]; exact htl)) = bv at ct hv JB
                  generalize ((Y[t]'(by rw [q3]; exact htl)).toNat : Int) = cz at cd
                  have HY : Hid (UhK ((saidEs h0l)[k]).2 bk (t + 1) (Y.set t bv)) := hY.put htl h8 bv hv.out
                  generalize hhB : (qs[k]).h = hB at c1 cd fd q1 q2 JB
                  generalize (qs[k]).c = cB at c1 q1
                  have JB2 : Hid (GetJ w.heap.size (wr.setCell ⟨hB, t, none⟩ (.int .u8 (bv.toNat : Int))) (setX qs k (Y.set t bv))) := JB
                  obtain ⟨curB, hbB, _⟩ := q1
                  have OB : Hid ((wr.setCell ⟨hB, t, none⟩ (.int .u8 (bv.toNat : Int))).ownsRow w.heap.size 108 2 (.slice (some ⟨ga, 0, none⟩) m c4) m (imgC (setX qs k (Y.set t bv)))) := by
                    have hc := setX_c qs k (Y.set t bv)
                    have hc2 := setX_c qs k Y
                    rw [hc2] at own
                    show World.ownsRow _ _ _ _ _ _ _
                    rw [hc]
                    refine owns_grown own (grown_store _ _ _ _) (fun g h1 h2 => ?_)
                    injection h2 with h2
                    subst h2
                    obtain ⟨_, cur, hb⟩ := owns_block own _ h1
                    exact Box.ne hbB hb (by decide) rfl
                  have X2 : Hid (Box (wr.setCell ⟨hB, t, none⟩ (.int .u8 (bv.toNat : Int))) w.heap.size #[.int .i64 0, .int .i64 0, .slice none 0 0] 40) := (heap_setCell_other wr ⟨hB, t, none⟩ w.heap.size _ (Box.ne x2 hbB (by decide))).trans x2
                  have X4 : Hid (Box (wr.setCell ⟨hB, t, none⟩ (.int .u8 (bv.toNat : Int))) G4 #[.int .i64 (E : Int), .int .i64 (S : Int), .slice (some ⟨ga, 0, none⟩) m c4] 40) := (heap_setCell_other wr ⟨hB, t, none⟩ G4 _ (Box.ne x4 hbB (by decide))).trans x4
                  have BB : Hid (Below w.heap.size w (wr.setCell ⟨hB, t, none⟩ (.int .u8 (bv.toNat : Int)))) := B.setCell (p := ⟨hB, t, none⟩) q2 _
                  have n4 : hB ≠ G4 := Box.ne hbB x4 (by decide)
                  have n4' := n4.symm
                  have na : hB ≠ ga := by
                    obtain ⟨_, cur, hb⟩ := owns_block own ga rfl
                    exact Box.ne hbB hb (by decide)
                  have na' := na.symm
                  have nb : hB ≠ gb := by omega
                  have nb' := nb.symm
                  have hk00 : (0 : Int) ≤ (k : Int) := by omega
                  have ht0 : (0 : Int) ≤ (t : Int) := by omega
                  clear x2 x4 own hJ hY B JB hcb he hsl hkx hat hat2 q2 q3 hbB hhB h8 lgb
                  go_wp2_with fail
                  go_region_held3 (fun u => u.cell? ⟨G4, 2, none⟩ = some (.slice (some ⟨ga, 0, none⟩) m c4) ∧ u.cell? ⟨ga, k * 2 + 1, none⟩ = some (.slice (some ⟨hB, 0, none⟩) 4096 cB) ∧ u.cell? ⟨gb, ob + t, none⟩ = some (.int .u8 (bv.toNat : Int))) (go_keep) (fail)
                  have bd := (Below.refl (wr.setCell ⟨hB, t, none⟩ (.int .u8 (bv.toNat : Int))).heap.size (wr.setCell ⟨hB, t, none⟩ (.int .u8 (bv.toNat : Int)))).drew
                  clear z2 c1 ct cd fd
                  go_wp2_with fail
                  go_roundw
                  case rel => exact ⟨t + 1, _, by omega, by push_cast; rfl, X2.out.below bd, X4.out.below bd, owns_below OB.out bd, JB2.out.below bd, HY.out, BB.out.drew⟩
                  case measure => simp [intOf]; omega
              · have ht2 : t = 4096 := by omega
                rw [ht2] at hY ⊢
                clear ht2 htl ht
                have hsl := setX_length qs k Y
                have HD2 : Hid (∀ i (h : i < (setX qs k Y).length) (h' : i < (saidEs h0l).length), i < k + 1 → (ls[i + 1]?.getD []).length = 4096 ∧ UhK ((saidEs h0l)[i]).2 (ls[i + 1]?.getD []) 4096 ((setX qs k Y)[i]).xs) := fun i h h' hik => by
                  by_cases e : i = k
                  · subst e
                    rw [setX_at _ _ _ hkq, hbk.out]
                    exact ⟨H4.out, hY⟩
                  · have hi : i < qs.length := by rw [hsl] at h; exact h
                    rw [setX_other _ _ _ _ hi e]
                    exact HDN.out i hi h' (by omega)
                have HT2 : Hid (∀ i (h : i < (setX qs k Y).length) (h' : i < (saidEs h0l).length), k + 1 ≤ i → DtK ((saidEs h0l)[i]).2 64 ((setX qs k Y)[i]).xs) := fun i h h' hik => by
                  have hi : i < qs.length := by rw [hsl] at h; exact h
                  rw [setX_other _ _ _ _ hi (by omega)]
                  exact HTO.out i hi h' (by omega)
                have HB2 : Hid (∀ i (h : i < (setX qs k Y).length) (h' : i < (saidEs h0l).length), ((setX qs k Y)[i]).b = (((saidEs h0l)[i]).1 : Int)) := fun i h h' => by
                  have hi : i < qs.length := by rw [hsl] at h; exact h
                  by_cases e : i = k
                  · subst e
                    rw [setX_at _ _ _ hkq]
                    exact HBL.out i hi h'
                  · rw [setX_other _ _ _ _ hi e]
                    exact HBL.out i hi h'
                have HL2 : Hid ((setX qs k Y).length = m) := by show _ = _; rw [hsl, HLQ.out]
                clear hsl hY
                go_wp2_with fail
                go_roundw
                case rel => exact ⟨k + 1, _, by omega, by push_cast; rfl, x2, x4, own, hJ, HL2.out, HB2.out, HD2.out, HT2.out, B⟩
                case measure => simp [intOf]; omega
          · have hno : Hid (¬ isGrp ls) := fun h => by
              have hs := h.2.2.2 k (by rw [← HH0.out]; exact hke)
              unfold stampedB at hs
              simp only [Bool.and_eq_true, decide_eq_true_eq] at hs
              rw [hbk.out] at hs
              exact h4 hs.1
            obtain ⟨L, hLd⟩ : ∃ L, L = bk.length := ⟨_, rfl⟩
            rw [← hLd] at g1 h4
            have hnb : ((L : Int) == 4096) = false := by simp; omega
            have hnb2 : ((L : Int) != 4096) = true := by simp; omega
            obtain ⟨XF, BF⟩ := zeros_back x2 B
            have d0 := XF.cell 0
            have d1 := XF.cell 1
            have d2 := XF.cell 2
            simp at d0 d1 d2
            have y0 := x2.cell 0
            have y1 := x2.cell 1
            have y2 := x2.cell 2
            have k0 := x2.frozen 0
            have k1 := x2.frozen 1
            have k2 := x2.frozen 2
            clear h4 hLd
            go_wp2_with fail
            refine bodyPost_ret (v := .tuple #[.agg #[.int .i64 0, .int .i64 0, .slice none 0 0], .int .i64 80]) (by simp [results, Tryz.results44, go_sem, d0, d1, d2]) rfl ?_
            exact .inr ⟨hno.out, rfl, BF⟩
        · have hke : k = m := by omega
          have hUG : UhG ls (qs.map fun p => (p.b, p.xs)) := by
            refine ⟨by rw [List.length_map, HLQ.out, HM.out, HH0.out], fun i h h' => ?_, fun i h h' => ?_⟩
            · have hi : i < qs.length := by simpa using h
              have := HBL.out i hi (by rw [HH0.out]; exact h')
              simp only [List.getElem_map]
              rw [this]
              simp [HH0.out]
            · have hi : i < qs.length := by simpa using h
              have := (HDN.out i hi (by rw [HH0.out]; exact h') (by rw [HLQ.out] at hi; omega)).2
              simp only [List.getElem_map]
              simpa [HH0.out] using this
          have hhd : isHead (ls[0]?.getD []) := by rw [← HH0.out]; exact HHD.out
          have h4 : ∀ j, j < (saidEs (ls[0]?.getD [])).length → (ls[j + 1]?.getD []).length = 4096 := fun j hj => by
            have hjm : j < m := by rw [HM.out, HH0.out]; exact hj
            exact (HDN.out j (by rw [HLQ.out]; exact hjm) (by rw [HH0.out]; exact hj) (by omega)).1
          have hln : ls.length = (saidEs (ls[0]?.getD [])).length + 1 := by rw [HL.out, HNM.out, HM.out, HH0.out]
          have hok := hUG.ok hhd
          have hgrp := hUG.grp hhd hln h4
          have himg := hUG.imgs hhd h4
          rw [← HH0.out] at hok hgrp himg
          rw [← HE.out, ← HS.out] at hok hgrp
          have hI := imgs_of own hJ HLQ.out
          obtain ⟨is, his⟩ : ∃ is, is = qs.map fun p => (p.b, p.xs) := ⟨_, rfl⟩
          have hil : is.length = m := by rw [his, List.length_map, HLQ.out]
          rw [← his] at hok hgrp himg hI
          have HOK : Hid (okGroup (E : Int) (S : Int) is) := hok
          have HGRP : Hid (isGrp ls ↔ putL E S is = ls) := hgrp
          have HIMG : Hid (imgsTo ls (saidEs h0l) (saidEs h0l).length = is) := himg
          have HIL : Hid (is.length = m) := hil
          have HIS : Hid (is = qs.map fun p => (p.b, p.xs)) := his
          rw [hke]
          clear hke hlt hk hUG hhd h4 hln hok hgrp himg his hil HDN HTO HBL
          have z0 := x4.cell 0
          have z1 := x4.cell 1
          have cP := rputG_any (E : Int) (S : Int) a4 m c4 is wr HIL.out hI
          go_wp2_with fail
          refine cP.mono ?_
          clear cP
          rintro r w5 (⟨E', S', hE', hS', _, gl, cl, rfl, hLs, b5⟩ | ⟨hbad, _⟩)
          case inr => exact absurd HOK.out hbad
          obtain rfl : E = E' := by omega
          obtain rfl : S = S' := by omega
          have B5 := B.trans (b5.mono B.size)
          have hLL : Lsts w (some ⟨b, o, none⟩) ls := fun _ => ⟨b, o, rfl, HLS.out⟩
          have cS := sameLists_at (some ⟨gl, 0, none⟩) (some ⟨b, o, none⟩) (m + 1) cl n cap (putL E S is) ls w5 (by rw [putL_length, HIL.out]) HL.out (by omega) hLs (hLL.below B5)
          have x2b := x2.below b5
          have x4b := x4.below b5
          have own5 := owns_below own b5
          have J5 := hJ.below b5
          clear z0 z1 z2 hE' hS' hLs hLL x2 x4 own hJ hI B b5
          go_wp2_with fail
          refine cS.mono ?_
          clear cS
          rintro r w6 ⟨rfl, b6⟩
          have x2c := x2b.below b6
          have x4c := x4b.below b6
          have own6 := owns_below own5 b6
          have J6 := J5.below b6
          have B6 := B5.trans (b6.mono B5.size)
          have y0 := x2c.cell 0
          have y1 := x2c.cell 1
          have y2 := x2c.cell 2
          have k0 := x2c.frozen 0
          have k1 := x2c.frozen 1
          have k2 := x2c.frozen 2
          have z0 := x4c.cell 0
          have z1 := x4c.cell 1
          have z2 := x4c.cell 2
          by_cases hg : isGrp ls
          · rw [decide_eq_true (HGRP.out.1 hg)]
            have HG : Hid (isGrp ls) := hg
            have XF : Box (((w6.setCell ⟨w.heap.size, 0, none⟩ (.int .i64 (E : Int))).setCell ⟨w.heap.size, 1, none⟩ (.int .i64 (S : Int))).setCell ⟨w.heap.size, 2, none⟩ (.slice a4 m c4)) w.heap.size #[.int .i64 (E : Int), .int .i64 (S : Int), .slice a4 m c4] 40 := by simpa using ((x2c.store 0 (.int .i64 (E : Int))).store 1 (.int .i64 (S : Int))).store 2 (.slice a4 m c4)
            have d0 := XF.cell 0
            have d1 := XF.cell 1
            have d2 := XF.cell 2
            simp at d0 d1 d2
            have BF := ((B6.setCell (p := ⟨w.heap.size, 0, none⟩) (Nat.le_refl _) (.int .i64 (E : Int))).setCell (p := ⟨w.heap.size, 1, none⟩) (Nat.le_refl _) (.int .i64 (S : Int))).setCell (p := ⟨w.heap.size, 2, none⟩) (Nat.le_refl _) (.slice a4 m c4)
            have hIF : OwnIs (((w6.setCell ⟨w.heap.size, 0, none⟩ (.int .i64 (E : Int))).setCell ⟨w.heap.size, 1, none⟩ (.int .i64 (S : Int))).setCell ⟨w.heap.size, 2, none⟩ (.slice a4 m c4)) w.heap.size a4 m c4 is := by
              obtain ⟨o1, p1⟩ := ownJ_put (j := 0) (v := .int .i64 (E : Int)) own6 J6 x2c
              obtain ⟨o2, p2⟩ := ownJ_put (j := 1) (v := .int .i64 (S : Int)) o1 p1 (x2c.store 0 _)
              obtain ⟨o3, p3⟩ := ownJ_put (j := 2) (v := .slice a4 m c4) o2 p2 ((x2c.store 0 _).store 1 _)
              exact ⟨_, o3, p3, HIS.out.symm, HLQ.out⟩
            clear own6 J6 own5 J5
            clear hg
            go_wp2_with fail
            refine bodyPost_ret (v := .tuple #[.agg #[.int .i64 (E : Int), .int .i64 (S : Int), .slice a4 m c4], .int .i64 0]) (by simp [results, Tryz.results44, go_sem, d0, d1, d2]) rfl ?_
            refine .inl ⟨HG.out, a4, c4, ?_, ?_, BF⟩
            · rw [← HH0.out, ← HE.out, ← HS.out, ← HM.out]
            · rw [← HH0.out, HIMG.out, ← HM.out]
              exact hIF
          · rw [decide_eq_false (fun e => hg (HGRP.out.2 e))]
            have HG : Hid (¬ isGrp ls) := hg
            obtain ⟨XF, BF⟩ := zeros_back x2c B6
            have d0 := XF.cell 0
            have d1 := XF.cell 1
            have d2 := XF.cell 2
            simp at d0 d1 d2
            clear hg
            go_wp2_with fail
            refine bodyPost_ret (v := .tuple #[.agg #[.int .i64 0, .int .i64 0, .slice none 0 0], .int .i64 80]) (by simp [results, Tryz.results44, go_sem, d0, d1, d2]) rfl ?_
            exact .inr ⟨HG.out, rfl, BF⟩
    · have hnb : ((n : Int) == (m : Int) + 1) = false := by simp; omega
      have hnb2 : ((n : Int) != (m : Int) + 1) = true := by simp; omega
      have hno : Hid (¬ isGrp ls) := fun h => hnm (by
        have := h.2.2.1
        rw [HL.out, ← HH0.out, ← HM.out] at this
        exact this)
      obtain ⟨XF, BF⟩ := zeros_back x2b B3
      have d0 := XF.cell 0
      have d1 := XF.cell 1
      have d2 := XF.cell 2
      simp at d0 d1 d2
      have y0 := x2b.cell 0
      have y1 := x2b.cell 1
      have y2 := x2b.cell 2
      have k0 := x2b.frozen 0
      have k1 := x2b.frozen 1
      have k2 := x2b.frozen 2
      clear hnm
      go_wp2_with fail
      refine bodyPost_ret (v := .tuple #[.agg #[.int .i64 0, .int .i64 0, .slice none 0 0], .int .i64 80]) (by simp [results, Tryz.results44, go_sem, d0, d1, d2]) rfl ?_
      exact .inr ⟨hno.out, rfl, BF⟩
  · have hno : Hid (¬ isGrp ls) := fun h => hhd (by rw [HH0.out]; exact h.2.1)
    have x2b := (x2.below b1).alloc (.cells #[.int .i64 e, .int .i64 s, .slice a' n' c'] 40)
    have B3 := (B2.trans (b1.mono B2.size)).alloc (Nat.le_trans B2.size b1.size) (.cells #[.int .i64 e, .int .i64 s, .slice a' n' c'] 40)
    obtain ⟨XF, BF⟩ := zeros_back x2b B3
    have d0 := XF.cell 0
    have d1 := XF.cell 1
    have d2 := XF.cell 2
    simp at d0 d1 d2
    have y0 := x2b.cell 0
    have y1 := x2b.cell 1
    have y2 := x2b.cell 2
    have k0 := x2b.frozen 0
    have k1 := x2b.frozen 1
    have k2 := x2b.frozen 2
    clear hhd g1
    go_wp2_with fail
    refine bodyPost_ret (v := .tuple #[.agg #[.int .i64 0, .int .i64 0, .slice none 0 0], .int .i64 80]) (by simp [results, Tryz.results44, go_sem, d0, d1, d2]) rfl ?_
    exact .inr ⟨hno.out, rfl, BF⟩
end Go.Proofs.YtkhejjddmbegaaaGreat.Rc

/-
  Rows of the document's disk, behind appends.
-/
namespace Go.Proofs.YtkhejjddmbegaaaGreat.Dk
open Go.RowKit

theorem infoW : (Tryz.prog.info? 108).map (fun i => (i.zero, i.size, i.bytes)) = some (some (.agg #[.int .i64 0, .slice none 0 0]), 2, 32) := by kernel_rfl
theorem info27' : (Tryz.prog.info? 41).map (fun i => (i.zero, i.size, i.bytes)) = some (some (.slice none 0 0), 1, 24) := by kernel_rfl

/-- the cells of a row of writes -/
theorem WrAt.cells {w : World} {Q : Nat → Prop} {a : Option Addr} {n c : Nat} {ws : List (Nat × List UInt8)} (h : WrAt w Q a n c ws) (h0 : 0 < n) :
    ∃ g o, a = some ⟨g, o, none⟩ ∧ ∃ news : List Value, news.length = n * 2 ∧ (∀ j u, news[j]? = some u → w.cell? ((⟨g, o, none⟩ : Addr).add j) = some u) ∧ (∀ u ∈ news, u.oneCell' = true) ∧
      ∀ j x, ws[j]? = some x → news[j * 2]? = some (.int .i64 (x.1 : Int)) ∧ ∃ u, news[j * 2 + 1]? = some u ∧ BlkAt w Q u x.2 := by
  obtain ⟨h1, h2, h3, _, h4⟩ := h
  obtain ⟨g, o, ha, hq, _, hc⟩ := h4 h0
  have key : ∀ j, j < n * 2 → ∃ u, w.cell? ⟨g, o + j, none⟩ = some u ∧ u.oneCell' = true := by
    intro j hj
    have hq : j / 2 < ws.length := by omega
    obtain ⟨k1, u, k2, k3⟩ := hc (j / 2) _ (List.getElem?_eq_getElem hq)
    rcases (show j = j / 2 * 2 ∨ j = j / 2 * 2 + 1 by omega) with e | e
    · rw [e]
      exact ⟨_, k1, rfl⟩
    · rw [e, ← Nat.add_assoc]
      obtain ⟨p, o', c', rfl, _⟩ := k3
      exact ⟨_, k2, rfl⟩
  have get : ∀ j, j < n * 2 → ((List.range (n * 2)).map fun j => (w.cell? ⟨g, o + j, none⟩).getD undef)[j]? = w.cell? ⟨g, o + j, none⟩ := by
    intro j hj
    obtain ⟨u, hu, _⟩ := key j hj
    simp [hj, hu]
  refine ⟨g, o, ha, (List.range (n * 2)).map fun j => (w.cell? ⟨g, o + j, none⟩).getD undef, by simp, fun j u hj => ?_, fun u hu => ?_, fun j x hx => ?_⟩
  · have hlt : j < n * 2 := by have := (List.getElem?_eq_some_iff.1 hj).1; simpa using this
    rw [Addr.add_lit, ← get j hlt]
    exact hj
  · obtain ⟨j, hj, rfl⟩ := List.mem_map.1 hu
    obtain ⟨u, hu, h1⟩ := key j (by simpa using hj)
    rw [hu]
    exact h1
  · have hj : j < ws.length := (List.getElem?_eq_some_iff.1 hx).1
    obtain ⟨k1, u, k2, k3⟩ := hc j x hx
    exact ⟨by rw [get _ (by omega)]; exact k1, u, by rw [get _ (by omega), ← Nat.add_assoc]; exact k2, k3⟩

/-- a row of one's own of writes is such a row -/
theorem WrAt.of_own {w : World} {Q : Nat → Prop} {B n : Nat} {v : Value} {xs : List Value} {ws : List (Nat × List UInt8)} (h : w.ownsRow B 108 2 v n xs) (h0 : 0 < n) (hl : ws.length = n) (hQ : ∀ i, B ≤ i → Q i)
    (hx : ∀ j x, ws[j]? = some x → xs[j * 2]? = some (.int .i64 (x.1 : Int)) ∧ ∃ u, xs[j * 2 + 1]? = some u ∧ BlkAt w Q u x.2) : ∃ g c, v = .slice (some ⟨g, 0, none⟩) n c ∧ WrAt w Q (some ⟨g, 0, none⟩) n c ws := by
  have h' := h
  rcases h.2 with ⟨_, h2⟩ | ⟨g, cap, cur, rfl, hB, hg, hnc, hcm, hcs, ht⟩
  · omega
  · refine ⟨g, cap, rfl, hl, hnc, hcm, fun e => by omega, fun _ => ⟨g, 0, rfl, hQ g hB, ⟨cur, hg⟩, fun j x hjx => ?_⟩⟩
    have hj : j < ws.length := (List.getElem?_eq_some_iff.1 hjx).1
    obtain ⟨k1, u, k2, k3⟩ := hx j x hjx
    exact ⟨by rw [Nat.zero_add, h'.cellAt _ (by omega)]; exact k1, u, by rw [Nat.zero_add, h'.cellAt _ (by omega)]; exact k2, k3⟩

/-- a row of one's own of blocks' bytes -/
theorem SafeAt.of_own {w : World} {Q : Nat → Prop} {B n : Nat} {v : Value} {xs : List Value} {bs : List (List UInt8)} (h : w.ownsRow B 41 1 v n xs) (h0 : 0 < n) (hl : bs.length = n) (hQ : ∀ i, B ≤ i → Q i)
    (hx : ∀ (j : Nat) (x : List UInt8), bs[j]? = some x → ∃ u, xs[j]? = some u ∧ BlkAt w Q u x) : ∃ g c, v = .slice (some ⟨g, 0, none⟩) n c ∧ SafeAt w Q (some ⟨g, 0, none⟩) n c bs := by
  have h' := h
  rcases h.2 with ⟨_, h2⟩ | ⟨g, cap, cur, rfl, hB, hg, hnc, hcm, hcs, ht⟩
  · omega
  · refine ⟨g, cap, rfl, hl, hnc, hcm, g, 0, rfl, hQ g hB, ⟨cur, hg⟩, fun j x hjx => ?_⟩
    have hj : j < bs.length := (List.getElem?_eq_some_iff.1 hjx).1
    obtain ⟨u, k2, k3⟩ := hx j x hjx
    exact ⟨u, by rw [Nat.zero_add, h'.cellAt _ (by omega)]; exact k2, k3⟩
/-- the cells of a row of blocks' bytes -/
theorem SafeAt.cells {w : World} {Q : Nat → Prop} {a : Option Addr} {n c : Nat} {bs : List (List UInt8)} (h : SafeAt w Q a n c bs) :
    ∃ g o, a = some ⟨g, o, none⟩ ∧ ∃ news : List Value, news.length = n * 1 ∧ (∀ j u, news[j]? = some u → w.cell? ((⟨g, o, none⟩ : Addr).add j) = some u) ∧ (∀ u ∈ news, u.oneCell' = true) ∧
      ∀ (j : Nat) (x : List UInt8), bs[j]? = some x → ∃ u, news[j]? = some u ∧ BlkAt w Q u x := by
  obtain ⟨h1, h2, h3, g, o, ha, hq, _, hc⟩ := h
  have key : ∀ j, j < n → ∃ u, w.cell? ⟨g, o + j, none⟩ = some u ∧ u.oneCell' = true := by
    intro j hj
    obtain ⟨u, k2, k3⟩ := hc j _ (List.getElem?_eq_getElem (by omega))
    obtain ⟨p, o', c', rfl, _⟩ := k3
    exact ⟨_, k2, rfl⟩
  have get : ∀ j, j < n → ((List.range n).map fun j => (w.cell? ⟨g, o + j, none⟩).getD undef)[j]? = w.cell? ⟨g, o + j, none⟩ := by
    intro j hj
    obtain ⟨u, hu, _⟩ := key j hj
    simp [hj, hu]
  refine ⟨g, o, ha, (List.range n).map fun j => (w.cell? ⟨g, o + j, none⟩).getD undef, by simp, fun j u hj => ?_, fun u hu => ?_, fun j x hx => ?_⟩
  · have hlt : j < n := by have := (List.getElem?_eq_some_iff.1 hj).1; simpa using this
    rw [Addr.add_lit, ← get j hlt]
    exact hj
  · obtain ⟨j, hj, rfl⟩ := List.mem_map.1 hu
    obtain ⟨u, hu, h1⟩ := key j (by simpa using hj)
    rw [hu]
    exact h1
  · have hj : j < bs.length := (List.getElem?_eq_some_iff.1 hx).1
    obtain ⟨u, k2, k3⟩ := hc j x hx
    exact ⟨u, by rw [get _ (by omega)]; exact k2, k3⟩
end Go.Proofs.YtkhejjddmbegaaaGreat.Dk

/-
  The document's disk: Write.
-/
namespace Go.Proofs.YtkhejjddmbegaaaGreat.Dk
open Go.RowKit

/-- blocks of other kinds than the law's boxes stay -/
def O49 (a w : World) : Prop := ∀ i cur t, Box a i cur t → t ≠ 54 → Box w i cur t
theorem O49.refl (a : World) : O49 a a := fun _ _ _ h _ => h
theorem O49.set {a w : World} {g j : Nat} {v : Value} {cb : Array Value} (h : O49 a w) (hb : Box w g cb 54) : O49 a (w.setCell ⟨g, j, none⟩ v) := fun i cur t hi ht =>
  (heap_setCell_other w ⟨g, j, none⟩ i v (fun e => (h i cur t hi ht).ne hb ht e)).trans (h i cur t hi ht)
theorem RD.o49 {w w' : World} {Q : Nat → Prop} {ad aw : Option Addr} {ns cs nw cw : Nat} {D : DS} (h : RD w Q ad aw ns cs nw cw D) (o : O49 w w') : RD w' Q ad aw ns cs nw cw D :=
  h.move (fun i _ _ ⟨cur, t, hi, ht⟩ => (o i cur t hi ht).trans hi.symm) (fun _ _ h => h)
theorem Box.away {w : World} {g g' j : Nat} {cs : Array Value} {t : TypeId} {v : Value} (h : Box w g cs t) (hn : g ≠ g') : Box (w.setCell ⟨g', j, none⟩ v) g cs t := (heap_setCell_other w ⟨g', j, none⟩ g v hn).trans h
/-- a row of the same writes, made since -/
def WrRow (w2 w' : World) (Q : Nat → Prop) (n : Nat) (v : Value) (ws : List (Nat × List UInt8)) : Prop :=
  (∃ a c, v = .slice a n c) ∧ (∃ xs : List Value, w'.ownsRow w2.heap.size 108 2 v n xs ∧ xs.length = n * 2 ∧ ∀ j y, ws[j]? = some y → xs[j * 2]? = some (.int .i64 (y.1 : Int)) ∧ ∃ u, xs[j * 2 + 1]? = some u ∧ BlkAt w2 Q u y.2) ∧ Below w2.heap.size w2 w'
/-- one write more: the row behind both appends -/
theorem wr_more {w w' : World} {Q : Nat → Prop} {B n : Nat} {v : Value} {xs : List Value} {ws : List (Nat × List UInt8)} (k : Nat) (u : Value) (x : List UInt8) (hl : ws.length = n) (hxl : xs.length = n * 2)
    (hx : ∀ j y, ws[j]? = some y → xs[j * 2]? = some (.int .i64 (y.1 : Int)) ∧ ∃ u, xs[j * 2 + 1]? = some u ∧ BlkAt w Q u y.2) (hk : ∀ u y, BlkAt w Q u y → BlkAt w' Q u y) (hu : BlkAt w' Q u x)
    (h : w'.ownsRow B 108 2 v (n + 1) (xs ++ [.int .i64 (k : Int), u])) (hQ : ∀ i, B ≤ i → Q i) : ∃ g c, v = .slice (some ⟨g, 0, none⟩) (n + 1) c ∧ WrAt w' Q (some ⟨g, 0, none⟩) (n + 1) c (ws ++ [(k, x)]) := by
  refine WrAt.of_own h (by omega) (by simp [hl]) hQ fun j y hy => ?_
  by_cases hj : j < n
  · rw [List.getElem?_append_left (by omega)] at hy
    obtain ⟨h1, u', h2, h3⟩ := hx j y hy
    exact ⟨by rw [List.getElem?_append_left (by omega)]; exact h1, u', by rw [List.getElem?_append_left (by omega)]; exact h2, hk _ _ h3⟩
  · have hj' : j = n := by have := (List.getElem?_eq_some_iff.1 hy).1; simp at this; omega
    subst hj'
    rw [List.getElem?_append_right (by omega), hl, Nat.sub_self] at hy
    simp at hy
    subst hy
    exact ⟨by rw [List.getElem?_append_right (by omega), hxl, Nat.sub_self]; rfl, u, by rw [List.getElem?_append_right (by omega), hxl, Nat.add_sub_cancel_left]; rfl, hu⟩

end Go.Proofs.YtkhejjddmbegaaaGreat.Dk

/-
  The document's disk: Flush.
-/
namespace Go.Proofs.YtkhejjddmbegaaaGreat.Dk
open Go.RowKit

theorem BlkAt.move5 {w w' : World} {Q : Nat → Prop} {v : Value} {xs : List UInt8} (h : BlkAt w Q v xs) (hk : ∀ i cur, Box w i cur 5 → w'.heap[i]? = w.heap[i]?) : BlkAt w' Q v xs := by
  obtain ⟨p, o, c, hv, h1, h2, hq, ⟨cur, hb⟩, hl, hc⟩ := h
  have e := hk p cur hb
  exact ⟨p, o, c, hv, h1, h2, hq, ⟨cur, e.trans hb⟩, hl, fun j hj => (World.cell?_of_block (a := ⟨p, o + j, none⟩) e).trans (hc j hj)⟩

def standsOf (D : DS) : List (List UInt8) := (List.range D.nb).map D.stand
theorem standsOf_get (D : DS) (k : Nat) (h : k < D.nb) : (standsOf D)[k]? = some (D.stand k) := by simp [standsOf, h]
theorem standsOf_length (D : DS) : (standsOf D).length = D.nb := by simp [standsOf]

end Go.Proofs.YtkhejjddmbegaaaGreat.Dk

/-
  The document's disk: Crash.
-/
namespace Go.Proofs.YtkhejjddmbegaaaGreat.Dk
open Go.RowKit

theorem and_pow8 (a s : Nat) (ha : a < 256) (hs : s < 8) : (bits .and .u8 (a : Int) ((2 : Int) ^ s % 256) == 0) = !bit a s := by
  have e : (2 : Int) ^ s % 256 = ((2 ^ s : Nat) : Int) := by
    have : s = 0 ∨ s = 1 ∨ s = 2 ∨ s = 3 ∨ s = 4 ∨ s = 5 ∨ s = 6 ∨ s = 7 := by omega
    rcases this with rfl | rfl | rfl | rfl | rfl | rfl | rfl | rfl <;> rfl
  rw [e]
  have h : ∀ a : Fin 256, ∀ s : Fin 8, (bits .and .u8 ((a.val : Nat) : Int) ((2 ^ s.val : Nat) : Int) == 0) = !bit a.val s.val := by decide +kernel
  exact h ⟨a, ha⟩ ⟨s, hs⟩

/-- the first k bytes of a torn block -/
def torn (old data : List UInt8) (m : Nat) : Nat → List UInt8
  | 0 => old
  | k + 1 => if bit m (k / 512) then (torn old data m k).set k (data.getD k 0) else torn old data m k
theorem torn_length (old data : List UInt8) (m : Nat) : ∀ k, (torn old data m k).length = old.length
  | 0 => rfl
  | k + 1 => by rw [torn]; split <;> simp [torn_length old data m k]
theorem torn_get (old data : List UInt8) (m : Nat) (ho : old.length = 4096) (hd : data.length = 4096) : ∀ k, k ≤ 4096 → ∀ i, (torn old data m k)[i]? = if i < k ∧ bit m (i / 512) = true then data[i]? else old[i]?
  | 0, _, i => by simp [torn]
  | k + 1, hk, i => by
    have ih := torn_get old data m ho hd k (by omega) i
    rw [torn]
    by_cases hb : bit m (k / 512) = true
    · rw [if_pos hb]
      by_cases e : i = k
      · subst e
        rw [List.getElem?_set, if_pos rfl, torn_length, if_pos (by omega), if_pos ⟨by omega, hb⟩]
        simp [List.getD, List.getElem?_eq_getElem (show i < data.length by omega)]
      · rw [List.getElem?_set, if_neg (fun h => e h.symm), ih]
        by_cases h : i < k ∧ bit m (i / 512) = true
        · rw [if_pos h, if_pos ⟨by omega, h.2⟩]
        · rw [if_neg h, if_neg (fun q => h ⟨by omega, q.2⟩)]
    · rw [if_neg hb, ih]
      by_cases h : i < k ∧ bit m (i / 512) = true
      · rw [if_pos h, if_pos ⟨by omega, h.2⟩]
      · rw [if_neg h, if_neg (fun q => by
          by_cases e : i = k
          · subst e; exact hb q.2
          · exact h ⟨by omega, q.2⟩)]
theorem torn_carry (d : List UInt8) (b : Nat) (data : List UInt8) (m : Nat) (hb : b * 4096 + 4096 ≤ d.length) (hd : data.length = 4096) : torn (blk d b) data m 4096 = blk (carry d b data m) b := by
  apply List.ext_getElem?
  intro i
  rw [torn_get _ _ _ (blk_length _ _ hb) hd 4096 (Nat.le_refl _), blk_get, blk_get]
  by_cases h : i < 4096
  · rw [if_pos h, if_pos h, carry_get d b data m hb hd, show b * 4096 + i - b * 4096 = i by omega]
    by_cases hbit : bit m (i / 512) = true
    · rw [if_pos ⟨h, hbit⟩, if_pos ⟨Nat.le_add_right _ _, Nat.add_lt_add_left h _, hbit⟩]
    · rw [if_neg (fun q => hbit q.2), if_neg (fun q => hbit q.2.2)]
  · rw [if_neg h, if_neg h, if_neg (fun q => h q.1)]

/-- the row of blocks while writes are carried out -/
structure CRow (w0 w : World) (Q : Nat → Prop) (g n c : Nat) (d : List UInt8) : Prop where
  box : ∃ cur : Array Value, Box w g cur 41 ∧ cur.size = c ∧ n ≤ c ∧ c ≤ maxLen ∧ ∀ j, j < n → ∃ u, cur[j]? = some u ∧ BlkAt w Q u (blk d j)
  base : w0.heap.size ≤ g
theorem CRow.cell {w0 w : World} {Q : Nat → Prop} {g n c : Nat} {d : List UInt8} (h : CRow w0 w Q g n c d) (j : Nat) (hj : j < n) : ∃ p o c', w.cell? ⟨g, j, none⟩ = some (.slice (some ⟨p, o, none⟩) 4096 c') ∧ BlkAt w Q (.slice (some ⟨p, o, none⟩) 4096 c') (blk d j) := by
  obtain ⟨cur, hb, _, _, _, he⟩ := h.box
  obtain ⟨u, hu, hB⟩ := he j hj
  obtain ⟨p, o, c', rfl, _⟩ := id hB
  exact ⟨p, o, c', by rw [hb.cell j]; exact hu, hB⟩
theorem CRow.frozen {w0 w : World} {Q : Nat → Prop} {g n c : Nat} {d : List UInt8} (h : CRow w0 w Q g n c d) (j : Nat) : w.frozen? ⟨g, j, none⟩ = false := by
  obtain ⟨cur, hb, _⟩ := h.box
  exact hb.frozen j
theorem CRow.below {w0 w w' : World} {Q : Nat → Prop} {g n c : Nat} {d : List UInt8} (h : CRow w0 w Q g n c d) (b : Below w.heap.size w w') : CRow w0 w' Q g n c d := by
  obtain ⟨⟨cur, hb, h1, h2, h3, he⟩, hg⟩ := h
  refine ⟨⟨cur, (b.block g hb.lt).trans hb, h1, h2, h3, fun j hj => ?_⟩, hg⟩
  obtain ⟨u, hu, hB⟩ := he j hj
  exact ⟨u, hu, hB.move (fun i hi _ _ => b.block i hi) (fun _ _ h => h)⟩
/-- one block is put in another's place -/
theorem CRow.put {w0 w : World} {Q : Nat → Prop} {g n c : Nat} {d d' : List UInt8} (h : CRow w0 w Q g n c d) (b : Nat) (hb : b < n) (v : Value) (hv : BlkAt w Q v (blk d' b)) (hd : ∀ j, j < n → j ≠ b → blk d' j = blk d j) : CRow w0 (w.setCell ⟨g, b, none⟩ v) Q g n c d' := by
  obtain ⟨⟨cur, hb27, h1, h2, h3, he⟩, hg⟩ := h
  have mv : ∀ u y, BlkAt w Q u y → BlkAt (w.setCell ⟨g, b, none⟩ v) Q u y := fun u y q => q.move5 (fun i c5 hi => heap_setCell_other w ⟨g, b, none⟩ i v (hi.ne hb27 (by decide)))
  refine ⟨⟨_, hb27.store b v, by rw [Array.size_setIfInBounds]; exact h1, h2, h3, fun j hj => ?_⟩, hg⟩
  by_cases e : j = b
  · subst e
    exact ⟨v, by rw [Array.getElem?_setIfInBounds, if_pos rfl, if_pos (by omega)], mv _ _ hv⟩
  · obtain ⟨u, hu, hB⟩ := he j hj
    exact ⟨u, by rw [Array.getElem?_setIfInBounds, if_neg (fun q => e q.symm)]; exact hu, mv _ _ (by rw [hd j hj e]; exact hB)⟩
end Go.Proofs.YtkhejjddmbegaaaGreat.Dk

/-
  The walk of the document's Crash.
-/
namespace Go.Proofs.YtkhejjddmbegaaaGreat.Dk
open Go.RowKit

theorem RowB.set {w : World} {g cap : Nat} {ys : List UInt8} (h : RowB w g cap ys) (j : Nat) (c : UInt8) : RowB (w.setCell ⟨g, j, none⟩ (.int .u8 (c.toNat : Int))) g cap (ys.set j c) := by
  obtain ⟨cur, hb, h1, h2, h3, h4⟩ := h
  refine ⟨_, hb.store j _, by simpa using h1, h2, by simpa using h3, ?_⟩
  rw [Array.toList_setIfInBounds, List.length_set, List.take_set, h4]
  simp [bcs, bc, List.map_set]
theorem CRow.of_own {w0 w : World} {Q : Nat → Prop} {B n : Nat} {v : Value} {xs : List Value} {d : List UInt8} (h : w.ownsRow B 41 1 v n xs) (h0 : 0 < n) (hB : w0.heap.size ≤ B) (hx : ∀ j, j < n → ∃ u, xs[j]? = some u ∧ BlkAt w Q u (blk d j)) : ∃ g c, v = .slice (some ⟨g, 0, none⟩) n c ∧ CRow w0 w Q g n c d := by
  rcases h.2 with ⟨_, h2⟩ | ⟨g, cap, cur, rfl, hB', hg, hnc, hcm, hcs, ht⟩
  · omega
  · refine ⟨g, cap, rfl, ⟨cur, hg, by omega, hnc, hcm, fun j hj => ?_⟩, by omega⟩
    obtain ⟨u, hu, hb⟩ := hx j hj
    refine ⟨u, ?_, hb⟩
    rw [← ht, List.getElem?_take, if_pos (by omega)] at hu
    simpa using hu
theorem CRow.safe {w0 w : World} {Q : Nat → Prop} {g n c : Nat} {d : List UInt8} {bs : List (List UInt8)} (h : CRow w0 w Q g n c d) (hl : bs.length = n) (hb : ∀ j, j < n → bs[j]? = some (blk d j)) (hQ : ∀ i, w0.heap.size ≤ i → Q i) : SafeAt w Q (some ⟨g, 0, none⟩) n c bs := by
  obtain ⟨⟨cur, hb27, h1, h2, h3, he⟩, hg⟩ := h
  refine ⟨hl, h2, h3, g, 0, rfl, hQ g hg, ⟨cur, hb27⟩, fun j x hx => ?_⟩
  have hj : j < n := by have := (List.getElem?_eq_some_iff.1 hx).1; omega
  obtain ⟨u, hu, hB⟩ := he j hj
  rw [hb j hj] at hx
  cases hx
  exact ⟨u, by rw [Nat.zero_add, hb27.cell j]; exact hu, hB⟩

theorem crash_len (D : DS) (ok : D.Ok) (ks : List Bool) (t : Int) (m : Nat) : ∀ k, k ≤ D.uf.length → (crashTo ks t m D.uf D.dur k).length = D.dur.length
  | 0, _ => rfl
  | k + 1, h => by
    have ih := crash_len D ok ks t m k (by omega)
    obtain ⟨h1, h2⟩ := ok.at k (by omega)
    have hfit : D.uf[k].1 * 4096 + 4096 ≤ (crashTo ks t m D.uf D.dur k).length := by rw [ih]; exact ok.room h1
    rw [crashTo, List.getElem?_eq_getElem (show k < D.uf.length by omega)]
    dsimp only
    split
    · rw [carry_length _ _ _ _ hfit h2, ih]
    · split
      · rw [carry_length _ _ _ _ hfit h2, ih]
      · exact ih
end Go.Proofs.YtkhejjddmbegaaaGreat.Dk

/-
  The document's disk: Load, New.
-/
namespace Go.Proofs.YtkhejjddmbegaaaGreat.Dk
open Go.RowKit

theorem CRow.o49 {w0 w w' : World} {Q : Nat → Prop} {g n c : Nat} {d : List UInt8} (h : CRow w0 w Q g n c d) (k : O49 w w') : CRow w0 w' Q g n c d := by
  obtain ⟨⟨cur, hb, h1, h2, h3, he⟩, hg⟩ := h
  refine ⟨⟨cur, k g cur 41 hb (by decide), h1, h2, h3, fun j hj => ?_⟩, hg⟩
  obtain ⟨u, hu, hB⟩ := he j hj
  exact ⟨u, hu, hB.move (fun i _ _ ⟨cur, t, hi, ht⟩ => (k i cur t hi ht).trans hi.symm) (fun _ _ h => h)⟩

set_option maxRecDepth 100000 in
set_option maxHeartbeats 8000000 in
theorem rload_at (nb : Nat) (a : Option Addr) (ca : Nat) (xs : List UInt8) (w : World) (Q : Nat → Prop) (hQ : ∀ i, w.heap.size ≤ i → Q i) (h1 : 1 ≤ nb) (h2 : nb ≤ 512) (hl : xs.length = nb * 4096) (hca : nb * 4096 ≤ ca) (hcm : ca ≤ maxLen) (hr : Rd w a xs) :
    Calls Tryz.prog 18 #[.slice a (nb * 4096) ca] w fun r w' => ∃ g c, r = .returned (.tuple #[.agg #[.slice (some ⟨g, 0, none⟩) nb c, .slice none 0 0, .int .i64 0, .bool false, .int .i64 (-1), .int .i64 (-1)], .int .i64 0]) ∧ CRow w w' Q g nb c xs ∧ Below w.heap.size w w' := by
  obtain ⟨b, o, rfl, hcell⟩ := hr (by omega)
  obtain ⟨i0, hi, hz0, hz1, hz2⟩ := info_parts info27'
  have B0 := ((Below.refl w.heap.size w).alloc (Nat.le_refl _) (.cells #[.slice none 0 0, .slice none 0 0, .int .i64 0, .bool false, .int .i64 0, .int .i64 0] 54)).alloc (by simp) (.cells #[.slice none 0 0, .slice none 0 0, .int .i64 0, .bool false, .int .i64 (-1), .int .i64 (-1)] 54)
  have y0 := (Box.new w #[.slice none 0 0, .slice none 0 0, .int .i64 0, .bool false, .int .i64 0, .int .i64 0] 54).alloc (.cells #[.slice none 0 0, .slice none 0 0, .int .i64 0, .bool false, .int .i64 (-1), .int .i64 (-1)] 54)
  have x0 := Box.new (w.alloc (.cells #[.slice none 0 0, .slice none 0 0, .int .i64 0, .bool false, .int .i64 0, .int .i64 0] 54)) #[.slice none 0 0, .slice none 0 0, .int .i64 0, .bool false, .int .i64 (-1), .int .i64 (-1)] 54
  have sz : (w.alloc (.cells #[.slice none 0 0, .slice none 0 0, .int .i64 0, .bool false, .int .i64 0, .int .i64 0] 54)).heap.size = w.heap.size + 1 := by simp
  rw [sz] at x0
  clear sz
  obtain ⟨N, hN⟩ : ∃ N : Nat, N = nb * 4096 := ⟨_, rfl⟩
  have hN1 : 4096 ≤ N := by omega
  have hN2 : N ≤ 2097152 := by omega
  have hN3 : (N : Int) % 4096 = 0 := by omega
  have hN0 : ((N : Int) == 0) = false := by simp; omega
  have hN5 : ¬ 2097152 < (N : Int) := by omega
  rw [← hN] at hl hca
  rw [← hN]
  have HN : Hid _ := hN
  have Hl : Hid _ := hl
  have Hcell : Hid _ := hcell
  have HQ : Hid _ := hQ
  have hcm2 : ca ≤ 9223372036854775807 := by unfold maxLen at hcm; omega
  clear hN hl hcell hQ hr
  go_enter Tryz.func18, Tryz.ntmps18
  go_wp2_with fail
  go_loopw [5] (fun i wr => ∃ (k : Nat) (v : Value) (ys : List Value), k ≤ nb ∧ i = .int .i64 (k * 4096 : Nat) ∧ (∃ a' c', v = .slice a' k c') ∧ wr.ownsRow w.heap.size 41 1 v k ys ∧ ys.length = k ∧ (∀ j, j < k → ∃ u, ys[j]? = some u ∧ BlkAt wr Q u (blk xs j)) ∧ Box wr (w.heap.size + 1) #[v, .slice none 0 0, .int .i64 0, .bool false, .int .i64 (-1), .int .i64 (-1)] 54 ∧ Box wr w.heap.size #[.slice none 0 0, .slice none 0 0, .int .i64 0, .bool false, .int .i64 0, .int .i64 0] 54 ∧ Below w.heap.size w wr) (fun i _ => N - (intOf i).toNat)
  case atStart => exact ⟨0, _, [], by omega, rfl, ⟨none, 0, rfl⟩, World.ownsRow_nil _ _ _ _, rfl, fun j hj => by omega, x0, y0, B0⟩
  case round =>
    clear x0 y0 B0
    obtain ⟨k, v, ys, hk, rfl, ⟨a', c', rfl⟩, ho, hyl, hys, x, y, B⟩ := hrel
    obtain ⟨K, hK⟩ : ∃ K : Nat, K = k * 4096 := ⟨_, rfl⟩
    rw [← hK]
    by_cases hlt : k < nb
    · have hKN : K + 4096 ≤ N := by have := HN.out; omega
      have hKN2 : (K : Int) < (N : Int) := by omega
      have HK : Hid _ := hK
      have hKw : IntKind.i64.wrap ((K : Int) + 4096) = (K : Int) + 4096 := IntWalk.i64_in _ (by omega)
      have Ho : Hid (wr.ownsRow w.heap.size 41 1 (.slice a' k c') k ys) := ho
      have Hys : Hid _ := hys
      have Hx : Hid _ := x
      have Hy : Hid _ := y
      have HB : Hid _ := B
      clear hK ho hys x y B
      go_upto_region 7 with fail
      refine wp_region_any (by kernel_rfl) ?_
      change wpAny _ _ _ _ _ _ _ (World.drew _)
      refine wpAny_take (i := 0) (v := ?_) rfl (by kernel_rfl) (by kernel_rfl) (by kernel_rfl) (fun _ _ _ h => h) (Or.inl ⟨by rfl, ?_⟩) ?_
      rotate_left
      · intro w
        go_simp
        with_reducible rfl
      refine wpAny_take (i := 2) (v := ?_) rfl (by kernel_rfl) (by kernel_rfl) (by kernel_rfl) (fun _ _ _ h => h) (Or.inl ⟨by rfl, ?_⟩) ?_
      rotate_left
      · intro w
        go_simp
        with_reducible rfl
      refine wpAny_take (i := 3) (v := ?_) rfl (by kernel_rfl) (by kernel_rfl) (by kernel_rfl) (fun _ _ _ h => h) (Or.inl ⟨by rfl, ?_⟩) ?_
      rotate_left
      · intro w
        go_simp
        with_reducible rfl
      refine wpAny_take (i := 4) (v := ?_) rfl (by kernel_rfl) (by kernel_rfl) (by kernel_rfl) (fun _ _ _ h => h) (Or.inl ⟨by rfl, ?_⟩) ?_
      rotate_left
      · intro w
        go_simp
        with_reducible rfl
      simp only [Act.put, List.setIfInBounds_toArray, List.set_cons_zero, List.set_cons_succ, List.getElem_toArray, List.getElem_cons_zero, List.getElem_cons_succ]
      refine wpAny_take (i := 5) (v := ?_) rfl (by kernel_rfl) (by kernel_rfl) (by kernel_rfl) (fun _ _ _ h => h) (Or.inl ⟨by rfl, ?_⟩) ?_
      rotate_left
      · intro w
        go_simp
        with_reducible rfl
      simp only [Act.put, List.setIfInBounds_toArray, List.set_cons_zero, List.set_cons_succ, List.getElem_toArray, List.getElem_cons_zero, List.getElem_cons_succ]
      obtain ⟨W, hW⟩ : ∃ W, W = wr.drew := ⟨_, rfl⟩
      have x1 : Box W (w.heap.size + 1) #[.slice a' k c', .slice none 0 0, .int .i64 0, .bool false, .int .i64 (-1), .int .i64 (-1)] 54 := by rw [hW]; exact Hx.out
      have y1 : Box W w.heap.size #[.slice none 0 0, .slice none 0 0, .int .i64 0, .bool false, .int .i64 0, .int .i64 0] 54 := by rw [hW]; exact Hy.out
      have bW : Below wr.heap.size wr W := by rw [hW]; exact (Below.refl _ _).drew
      have o1 : W.ownsRow w.heap.size 41 1 (.slice a' k c') k ys := by rw [hW]; exact World.ownsRow.drew Ho.out
      have B1 : Below w.heap.size w W := HB.out.trans (bW.mono HB.out.size)
      have hys1 : ∀ j, j < k → ∃ u, ys[j]? = some u ∧ BlkAt W Q u (blk xs j) := fun j hj => by
        obtain ⟨u, hu, hb⟩ := Hys.out j hj
        exact ⟨u, hu, hb.move (fun i hi _ _ => bW.block i hi) (fun _ _ h => h)⟩
      rw [← hW]
      clear hW Hx Hy Ho HB Hys bW
      have cx := x1.cell 0
      simp only [List.getElem?_toArray, List.getElem?_cons_zero] at cx
      refine wpAny_of_late (C := SlotsCells [(28, .pointer (some ⟨w.heap.size + 1, 0, none⟩))] [(⟨w.heap.size + 1, 0, none⟩, .slice a' k c')]) (late := [10, 11]) _ _ _ _ ?_
      refine wpAnyD_take (i := 1) (v := .slice a' k c') rfl (by kernel_rfl) (by kernel_rfl) (by kernel_rfl) (by kernel_rfl) (fun _ _ _ h => h) ?_ (fun fr u h => (SlotsCells.put 29 _ (by rfl)).1 h) (fun fr u h => (SlotsCells.put 29 _ (by rfl)).2 h) ?_ ?_
      · intro fr u hh
        obtain ⟨e1, e2⟩ := hh.load (s := 28) (p := ⟨w.heap.size + 1, 0, none⟩) (v := .slice a' k c') (by simp) (by simp)
        exact ⟨rfl, by simp [execOp, e1, go_sem, e2]⟩
      · refine ⟨fun p hp => ?_, fun q hq => ?_⟩
        · simp at hp
          subst hp
          rfl
        · simp at hq
          subst hq
          exact cx
      simp only [Act.put, List.setIfInBounds_toArray, List.set_cons_zero, List.set_cons_succ, List.getElem_toArray, List.getElem_cons_zero, List.getElem_cons_succ]
      refine wpAnyD_one (i := 6) (by kernel_rfl) rfl (fun K' hK' => ?_)
      go_simp
      rw [if_pos (by omega), if_pos (by omega), if_neg (by omega)]
      have e4 : ((K : Int) + 4096).toNat - K = 4096 := by omega
      rw [e4]
      refine hK' _ _ ⟨?_, ?_⟩
      · refine .inr ⟨fun p hp => ?_, fun q hq => ?_⟩
        · simp at hp
          subst hp
          rfl
        · simp at hq
          subst hq
          exact cx
      clear hK' K'
      have hKx : K + 4096 ≤ xs.length := by rw [Hl.out]; exact hKN
      have hblk : (blk xs k).length = 4096 := blk_length xs k (by rw [← HK.out]; exact hKx)
      have rdk : Rd W (some ⟨b, o + K, none⟩) (blk xs k) := fun _ => ⟨b, o + K, rfl, fun j hj => by
        have hj' : K + j < xs.length := by omega
        have c0 := Hcell.out (K + j) hj'
        rw [Nat.add_assoc, B1.cell (p := ⟨b, o + (K + j), none⟩) (block_lt_of_cell c0), c0]
        simp [blk, HK.out]⟩
      refine wpAnyD_one (i := 7) (by kernel_rfl) rfl (fun K' hK' => ?_)
      go_simp
      refine (copyBytes_at (ca - K) 4096 (some ⟨b, o + K, none⟩) (blk xs k) W hblk (by omega) rdk (fun h => by cases h)).mono ?_
      rintro e w3 ⟨v3, rfl, o3, b3⟩
      obtain ⟨gd, cd, rfl, hgd, r3⟩ := RowB.owns o3 (by omega)
      have cx3 := (b3.cell (p := ⟨w.heap.size + 1, 0, none⟩) x1.lt).trans cx
      refine hK' _ _ ⟨?_, ?_⟩
      · refine .inr ⟨fun p hp => ?_, fun q hq => ?_⟩
        · simp at hp
          subst hp
          rfl
        · simp at hq
          subst hq
          exact cx3
      clear hK' K'
      have A4 := (Below.refl w3.heap.size w3).alloc (Nat.le_refl _) (.cells #[.slice (some ⟨gd, 0, none⟩) 4096 cd] 41)
      have l4 := Box.new w3 #[.slice (some ⟨gd, 0, none⟩) 4096 cd] 41
      have cx4 := (A4.cell (p := ⟨w.heap.size + 1, 0, none⟩) (Nat.lt_of_lt_of_le x1.lt b3.size)).trans cx3
      refine wpAnyD_one (i := 8) (by kernel_rfl) rfl (fun K' hK' => ?_)
      go_simp
      refine hK' _ _ ⟨?_, ?_⟩
      · refine .inr ⟨fun p hp => ?_, fun q hq => ?_⟩
        · simp at hp
          subst hp
          rfl
        · simp at hq
          subst hq
          exact cx4
      clear hK' K'
      obtain ⟨gn, hgn⟩ : ∃ gn, gn = w3.heap.size := ⟨_, rfl⟩
      obtain ⟨w4, hw4⟩ : ∃ w4, w4 = w3.alloc (.cells #[.slice (some ⟨gd, 0, none⟩) 4096 cd] 41) := ⟨_, rfl⟩
      rw [← hw4] at A4 l4 cx4 ⊢
      rw [← hgn] at l4 ⊢
      have b34 := b3.trans (A4.mono b3.size)
      have o4 := World.ownsRow.kept (row := none) o1 ⟨b34.os, b34.tape, b34.output, b34.size, fun q hq _ => b34.block q hq⟩ (Classical.em _)
      have o40 : w4.ownsRow 0 41 1 (.slice a' k c') k ys := ⟨o4.1, by
        rcases o4.2 with h0 | ⟨g, cap, cur, hv, _, r⟩
        · exact .inl h0
        · exact .inr ⟨g, cap, cur, hv, Nat.zero_le _, r⟩⟩
      refine wpAnyD_one (i := 9) (by kernel_rfl) rfl (fun K' hK' => ?_)
      refine step_append_where rfl (.tmp 29) (.tmp 36) 52 rfl 41 i0 (.slice none 0 0) 1 24 Tryz.underlying52 hi hz0 hz1 hz2 rfl (by decide) (.slice a' k c') k ys rfl o40 ⟨gn, 0, none⟩ 1 1 [.slice (some ⟨gd, 0, none⟩) 4096 cd] rfl rfl ?_ ?_ (by unfold maxLen; omega) (by omega) ?_
      · intro j u hj
        match j, hj with
        | 0, hj => simp at hj; subst hj; rw [Addr.add_lit]; exact l4.cell 0
      · intro u hu
        simp at hu
        subst hu
        rfl
      intro v5 w5 o50 gr5 hwh
      obtain ⟨a5, c5, rfl⟩ : ∃ a c, v5 = .slice a (k + 1) c := by
        rcases o50.2 with ⟨_, h⟩ | ⟨g', c'', cur, hv, _⟩
        · omega
        · exact ⟨_, c'', hv⟩
      have o5 : w5.ownsRow w.heap.size 41 1 (.slice a5 (k + 1) c5) (k + 1) (ys ++ [.slice (some ⟨gd, 0, none⟩) 4096 cd]) := ⟨o50.1, by
        rcases o50.2 with h0 | ⟨g, cap, cur, hv, _, r⟩
        · exact .inl h0
        · refine .inr ⟨g, cap, cur, hv, ?_, r⟩
          rcases hwh g (by rw [hv]; rfl) with h | h
          · exact (World.ownsRow.lt o4 g h).1
          · exact Nat.le_trans B1.size (Nat.le_trans b34.size h)⟩
      have x4 := x1.below b34
      have y4 := y1.below b34
      have x5 : Box w5 (w.heap.size + 1) _ 54 := (gr5.block _ x4.lt (owns_ne o4 x4 (by decide))).trans x4
      have y5 : Box w5 w.heap.size _ 54 := (gr5.block _ y4.lt (owns_ne o4 y4 (by decide))).trans y4
      have B4 := B1.trans (b34.mono B1.size)
      have B5 : Below w.heap.size w w5 := B4.grown gr5 B4.size (fun q e => (World.ownsRow.lt o4 q e).1)
      have r4 := r3.same (A4.block gd r3.lt)
      have r5 : RowB w5 gd cd (blk xs k) := r4.same (gr5.block gd r4.lt (by obtain ⟨cur5, hb5, _⟩ := r4; exact owns_ne o4 hb5 (by decide)))
      have hu5 : BlkAt w5 Q (.slice (some ⟨gd, 0, none⟩) 4096 cd) (blk xs k) := BlkAt.of_row r5 hblk (HQ.out gd (Nat.le_trans B1.size hgd))
      have hys5 : ∀ j, j < k + 1 → ∃ u, (ys ++ [.slice (some ⟨gd, 0, none⟩) 4096 cd])[j]? = some u ∧ BlkAt w5 Q u (blk xs j) := fun j hj => by
        by_cases hjk : j < k
        · obtain ⟨u, hu, hb⟩ := hys1 j hjk
          have hb4 : BlkAt w4 Q u (blk xs j) := hb.move (fun i hi _ _ => b34.block i hi) (fun _ _ h => h)
          exact ⟨u, by rw [List.getElem?_append_left (by omega)]; exact hu, hb4.move5 (fun i cur hi => gr5.block i hi.lt (owns_ne o4 hi (by decide)))⟩
        · have hje : j = k := by omega
          subst hje
          exact ⟨_, by rw [List.getElem?_append_right (by omega), hyl, Nat.sub_self]; rfl, hu5⟩
      have cx5 := x5.cell 0
      have fx5 := x5.frozen 0
      simp only [List.getElem?_toArray, List.getElem?_cons_zero] at cx5
      refine hK' _ _ ⟨?_, ?_⟩
      · refine .inr ⟨fun p hp => ?_, fun q hq => ?_⟩
        · simp at hp
          subst hp
          rfl
        · simp at hq
          subst hq
          exact cx5
      clear hK' K'
      simp only [Act.put, List.setIfInBounds_toArray]
      refine wpAnyD_one (i := 10) (by kernel_rfl) rfl (fun K' hK' => ?_)
      go_simp
      refine hK' _ _ ⟨.inl rfl, ?_⟩
      clear hK' K'
      refine wpAnyD_one (i := 11) (by kernel_rfl) rfl (fun K' hK' => ?_)
      go_simp
      refine hK' _ _ ⟨.inl rfl, ?_⟩
      clear hK' K'
      refine wpAnyD_done (by kernel_rfl) ?_ _
      have x6 := x5.store 0 (.slice a5 (k + 1) c5)
      have y6 := y5.away (g' := w.heap.size + 1) (j := 0) (v := .slice a5 (k + 1) c5) (by omega)
      have B6 := B5.setCell (p := ⟨w.heap.size + 1, 0, none⟩) (by simp) (.slice a5 (k + 1) c5)
      have k6 := (O49.refl w5).set (j := 0) (v := .slice a5 (k + 1) c5) x5
      have o6 : (w5.setCell ⟨w.heap.size + 1, 0, none⟩ (.slice a5 (k + 1) c5)).ownsRow w.heap.size 41 1 (.slice a5 (k + 1) c5) (k + 1) (ys ++ [.slice (some ⟨gd, 0, none⟩) 4096 cd]) := o5.kept (grown_store w5 (w.heap.size + 1) 0 _) (.inr (owns_ne o5 x5 (by decide)).symm)
      have hys6 : ∀ j, j < k + 1 → ∃ u, (ys ++ [.slice (some ⟨gd, 0, none⟩) 4096 cd])[j]? = some u ∧ BlkAt (w5.setCell ⟨w.heap.size + 1, 0, none⟩ (.slice a5 (k + 1) c5)) Q u (blk xs j) := fun j hj => by
        obtain ⟨u, hu, hb⟩ := hys5 j hj
        exact ⟨u, hu, hb.move (fun i _ _ ⟨cur, t, hi, ht⟩ => (k6 i cur t hi ht).trans hi.symm) (fun _ _ h => h)⟩
      have hx6 : Box (w5.setCell ⟨w.heap.size + 1, 0, none⟩ (.slice a5 (k + 1) c5)) (w.heap.size + 1) #[.slice a5 (k + 1) c5, .slice none 0 0, .int .i64 0, .bool false, .int .i64 (-1), .int .i64 (-1)] 54 := x6
      generalize w5.setCell ⟨w.heap.size + 1, 0, none⟩ (.slice a5 (k + 1) c5) = X at hx6 y6 B6 o6 hys6 ⊢
      have Q1 : Hid _ := o6
      have Q2 : Hid _ := hys6
      clear o6 hys6 x6 x5 y5 B5 o5 o50 gr5 hwh hys5 hu5 r5 r4 r3 x4 y4 B4 o4 o40 b34 A4 l4 b3 o3 o1 x1 y1 B1 hys1 k6 cx cx3 cx4 cx5 fx5
      go_wp2
      go_roundw
      case rel => exact ⟨k + 1, _, _, by omega, by rw [show ((k + 1) * 4096 : Nat) = k * 4096 + 4096 by omega, ← HK.out]; rfl, ⟨_, _, rfl⟩, Q1.out, by simp [hyl], Q2.out, hx6, y6, B6⟩
      case measure => simp [intOf]; omega
    · have hkn : k = nb := by omega
      have hKN : K = N := by rw [hK, hkn]; exact HN.out.symm
      rw [hkn] at ho hys x
      obtain ⟨g6, c6, e6, C6⟩ := CRow.of_own (w0 := w) (d := xs) (Q := Q) ho (by omega) (Nat.le_refl _) hys
      cases e6
      rw [hKN]
      have HC : Hid (CRow w wr Q g6 nb c' xs) := C6
      have HB : Hid _ := B
      clear C6 B ho hys hK hKN hkn
      obtain ⟨p0, p1, p2, p3, p4, p5⟩ := x.all6
      obtain ⟨q0, q1, q2, q3, q4, q5⟩ := y.all6
      obtain ⟨g0, g1, g2, g3, g4, g5⟩ := y.fr6
      go_wp2_with fail
      have k9 := ((((((O49.refl wr).set (j := 0) (v := .slice (some ⟨g6, 0, none⟩) nb c') y).set (j := 1) (v := .slice none 0 0) (y.store 0 _)).set (j := 2) (v := .int .i64 0) ((y.store 0 _).store 1 _)).set (j := 3) (v := .bool false) (((y.store 0 _).store 1 _).store 2 _)).set (j := 4) (v := .int .i64 (-1)) ((((y.store 0 _).store 1 _).store 2 _).store 3 _)).set (j := 5) (v := .int .i64 (-1)) (((((y.store 0 _).store 1 _).store 2 _).store 3 _).store 4 _)
      refine bodyPost_ret (v := .tuple #[.agg #[.slice (some ⟨g6, 0, none⟩) nb c', .slice none 0 0, .int .i64 0, .bool false, .int .i64 (-1), .int .i64 (-1)], .int .i64 0]) ?_ rfl ⟨g6, c', rfl, HC.out.o49 k9, ?_⟩
      · simp [results, Tryz.results18, go_sem, q0, q1, q2, q3, q4, q5]
      · repeat (refine Below.setCell ?_ (by simp) _)
        exact HB.out

end Go.Proofs.YtkhejjddmbegaaaGreat.Dk
