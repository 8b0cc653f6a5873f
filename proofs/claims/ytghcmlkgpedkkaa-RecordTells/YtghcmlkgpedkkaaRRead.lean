/-
  The document's own read: the group of which a block may be the head.
-/
import Derived.Test.YtghcmlkgpedkkaaRd
import Derived.Test.YtghcmlkgpedkkaaLow
import Derived.Deep.Cut
import Derived.Deep.RegionWith
namespace Go.Proofs.Ytghcmlkgpedkkaa
open Go.RowKit

/-- what read tells -/
def ReadR (w : World) (xs : List UInt8) (r : Ending) (w' : World) : Prop :=
  (isHead xs ∧ ∃ a c qs, r = .returned (.tuple #[.agg #[.int .i64 (saidE xs : Int), .int .i64 (saidS xs : Int), .slice a (saidEs xs).length c], .bool true]) ∧ w'.ownsRow w.heap.size 38 2 (.slice a (saidEs xs).length c) (saidEs xs).length (imgC qs) ∧
    GetJ w.heap.size w' qs ∧ SaidG xs (qs.map fun p => (p.b, p.xs)) ∧ Below w.heap.size w w') ∨
  (¬ isHead xs ∧ ∃ e s a n c, r = .returned (.tuple #[.agg #[.int .i64 e, .int .i64 s, .slice a n c], .bool false]) ∧ Below w.heap.size w w')

/-- what stands in read's last statement -/
structure ReadS (w : World) (E S n : Nat) (a : Option Addr) (c : Nat) (qs : List GG) (u : World) : Prop where
  x8 : Box u (w.heap.size + 1) #[.int .i64 (E : Int), .int .i64 (S : Int), .slice a n c] 28
  own : u.ownsRow w.heap.size 38 2 (.slice a n c) n (imgC qs)
  J : GetJ w.heap.size u qs
  B : Below w.heap.size w u
@[reducible] def ReadT (w : World) (E S n : Nat) (a : Option Addr) (c : Nat) (qs : List GG) (u : World) : Prop :=
  u.cell? ⟨w.heap.size + 1, 0, none⟩ = some (.int .i64 (E : Int)) ∧ u.cell? ⟨w.heap.size + 1, 1, none⟩ = some (.int .i64 (S : Int)) ∧ u.cell? ⟨w.heap.size + 1, 2, none⟩ = some (.slice a n c) ∧ Hid (ReadS w E S n a c qs u)
section
variable {w u u' : World} {E S n c : Nat} {a : Option Addr} {qs : List GG}
theorem ReadT.new (h : ReadS w E S n a c qs u) : ReadT w E S n a c qs u := ⟨h.x8.cell 0, h.x8.cell 1, h.x8.cell 2, h⟩
theorem ReadT.below (b : Below u.heap.size u u') (h : ReadT w E S n a c qs u) : ReadT w E S n a c qs u' := ReadT.new ⟨h.2.2.2.out.x8.below b, owns_below h.2.2.2.out.own b, h.2.2.2.out.J.below b, h.2.2.2.out.B.trans (b.mono h.2.2.2.out.B.size)⟩
theorem ReadS.put {j : Nat} {v : Value} {cs : Array Value} (h : ReadS w E S n a c qs u) (hb : Box u w.heap.size cs 28) : ReadS w E S n a c qs (u.setCell ⟨w.heap.size, j, none⟩ v) :=
  ⟨(heap_setCell_other u ⟨w.heap.size, j, none⟩ (w.heap.size + 1) v (by simp)).trans h.x8, owns_grown h.own (grown_store _ _ _ _) (fun g h1 h2 => by
    injection h2 with h2
    subst h2
    obtain ⟨_, cur, hc⟩ := owns_block h.own _ h1
    exact Box.ne hc hb (by decide) rfl), h.J.store hb (by decide) v, h.B.setCell (p := ⟨w.heap.size, j, none⟩) (Nat.le_refl _) v⟩
theorem ReadT.put3 {x y z : Value} (hb : Box u w.heap.size #[.int .i64 0, .int .i64 0, .slice none 0 0] 28) (h : ReadT w E S n a c qs u) : ReadT w E S n a c qs (((u.setCell ⟨w.heap.size, 0, none⟩ x).setCell ⟨w.heap.size, 1, none⟩ y).setCell ⟨w.heap.size, 2, none⟩ z) := by
  have b1 := hb.store 0 x
  have b2 := b1.store 1 y
  exact ReadT.new (((h.2.2.2.out.put hb).put b1).put b2)
theorem ReadT.imgs (h : ReadT w E S n a c qs u) (hl : qs.length = n) : Imgs u a (qs.map fun p => (p.b, p.xs)) := imgs_of h.2.2.2.out.own h.2.2.2.out.J hl
end

set_option maxRecDepth 100000 in
theorem rread_short (a : Option Addr) (n cap : Nat) (xs : List UInt8) (w : World) (hl : xs.length = n) (h4 : ¬ n = 4096) : Calls Try.prog 45 #[.slice a n cap] w (ReadR w xs) := by
  have hno : Hid (¬ isHead xs) := fun h => h4 (by rw [← hl]; exact h.1)
  have x2 := Box.new w #[.int .i64 0, .int .i64 0, .slice none 0 0] 28
  have B2 := (Below.refl w.heap.size w).alloc (Nat.le_refl _) (.cells #[.int .i64 0, .int .i64 0, .slice none 0 0] 28)
  have hb : ((n : Int) == 4096) = false := by simp; omega
  have hb2 : ((n : Int) != 4096) = true := by simp; omega
  clear hl h4
  go_enter Try.func45, Try.ntmps45
  go_wp2_with fail
  refine bodyPost_ret (v := .tuple #[.agg #[.int .i64 0, .int .i64 0, .slice none 0 0], .bool false]) (by simp [results, Try.results45, go_sem]) rfl ?_
  exact .inr ⟨hno.out, 0, 0, none, 0, 0, rfl, B2⟩

set_option maxRecDepth 100000 in
set_option maxHeartbeats 8000000 in
theorem rread_in (g o cap : Nat) (xs : List UInt8) (w : World) (hl : xs.length = 4096) (hr : Rd w (some ⟨g, o, none⟩) xs) (_hcap : 4096 ≤ cap) : Calls Try.prog 45 #[.slice (some ⟨g, o, none⟩) 4096 cap] w (ReadR w xs) := by
  obtain ⟨i0, hi, hz0, hz1, hz2⟩ := info_parts info38
  have x2 := Box.new w #[.int .i64 0, .int .i64 0, .slice none 0 0] 28
  have B2 := (Below.refl w.heap.size w).alloc (Nat.le_refl _) (.cells #[.int .i64 0, .int .i64 0, .slice none 0 0] 28)
  have HL : Hid (xs.length = 4096) := hl
  have HR : Hid (Rd w (some ⟨g, o, none⟩) xs) := hr
  obtain ⟨s1, s2⟩ := said_nums xs hl
  have hE : saidE xs < 16777216 := by
    rw [← s1]
    have := beNat_lt (xs.take 3)
    rw [List.length_take, hl] at this
    exact this
  have hS : saidS xs < 1099511627776 := by
    unfold saidS
    omega
  have n1 : numAt xs 0 3 = some (saidE xs) := by
    have := numAt_some (xs := xs) (k := 0) (size := 3) (by omega)
    rw [List.drop_zero, s1] at this
    exact this
  have n2 : numAt xs 3 5 = some (saidS xs) := by
    have := numAt_some (xs := xs) (k := 3) (size := 5) (by omega)
    rw [s2] at this
    exact this
  have cN1 := refNumber_at cap 4096 (some ⟨g, o, none⟩) xs 0 3 3 (w.alloc (.cells #[.int .i64 0, .int .i64 0, .slice none 0 0] 28)) rfl hl (by omega) (by omega) (by omega) (hr.below B2 (Nat.le_refl _))
  have cN2 := refNumber_at cap 4096 (some ⟨g, o, none⟩) xs 3 5 5 (w.alloc (.cells #[.int .i64 0, .int .i64 0, .slice none 0 0] 28)) rfl hl (by omega) (by omega) (by omega) (hr.below B2 (Nat.le_refl _))
  rw [n1] at cN1
  rw [n2] at cN2
  clear n1 n2 s1 s2 hl hr
  obtain ⟨E, hEd⟩ : ∃ E, E = saidE xs := ⟨_, rfl⟩
  obtain ⟨S, hSd⟩ : ∃ S, S = saidS xs := ⟨_, rfl⟩
  rw [← hEd] at hE cN1
  rw [← hSd] at hS cN2
  have HE : Hid (E = saidE xs) := hEd
  have HS : Hid (S = saidS xs) := hSd
  have wE : IntKind.i64.wrap (E : Int) = (E : Int) := by rw [IntKind.wrap_i64]; omega
  have wS : IntKind.i64.wrap (S : Int) = (S : Int) := by rw [IntKind.wrap_i64]; omega
  clear hEd hSd
  dsimp only [Option.getD_some, Option.isSome_some] at cN1 cN2
  go_enter Try.func45, Try.ntmps45
  go_wp2_with fail
  refine cN1.mono ?_
  rintro r w1 ⟨rfl, rfl⟩
  go_wp2_with fail
  refine cN2.mono ?_
  rintro r w1 ⟨rfl, rfl⟩
  clear cN1 cN2
  have x2' := x2.alloc (.cells #[.int .i64 (E : Int), .int .i64 (S : Int), .slice none 0 0] 28)
  have x8 := Box.new (w.alloc (.cells #[.int .i64 0, .int .i64 0, .slice none 0 0] 28)) #[.int .i64 (E : Int), .int .i64 (S : Int), .slice none 0 0] 28
  have hs1 : (w.alloc (.cells #[.int .i64 0, .int .i64 0, .slice none 0 0] 28)).heap.size = w.heap.size + 1 := by simp
  rw [hs1] at x8
  have B3 := B2.alloc B2.size (.cells #[.int .i64 (E : Int), .int .i64 (S : Int), .slice none 0 0] 28)
  obtain ⟨W1, hW1⟩ : ∃ u, u = (w.alloc (.cells #[.int .i64 0, .int .i64 0, .slice none 0 0] 28)).alloc (.cells #[.int .i64 (E : Int), .int .i64 (S : Int), .slice none 0 0] 28) := ⟨_, rfl⟩
  rw [← hW1] at x2' x8 B3
  have HW : Hid (W1 = (w.alloc (.cells #[.int .i64 0, .int .i64 0, .slice none 0 0] 28)).alloc (.cells #[.int .i64 (E : Int), .int .i64 (S : Int), .slice none 0 0] 28)) := hW1
  clear hW1 x2 B2 hs1
  go_wp2_with fail
  rw [← HW.out]
  clear HW
  go_loopw [9, 10] (fun v i u => ∃ k : Nat, k ≤ 4096 ∧ i = .int .i64 (k : Int) ∧ u.ownsRow W1.heap.size 5 1 v (gath xs k).length (bcs (gath xs k)) ∧ Below W1.heap.size W1 u) (fun _ i _ => 4096 - (intOf i).toNat)
  case atStart => exact ⟨0, by omega, rfl, World.ownsRow_nil _ _ _ _, Below.refl _ _⟩
  case round =>
    obtain ⟨k, hk, rfl, own, B⟩ := hrel
    obtain ⟨av, cv, rfl⟩ := owns_shape own
    have hgb := gath_bound xs k
    by_cases hlt : k < 4096
    · have hki : (k : Int) < 4096 := by omega
      have hgs := gath_succ xs k
      by_cases h8 : 8 ≤ k % 512
      · have hi8 : (8 : Int) ≤ (k : Int) % 512 := by omega
        rw [if_pos h8] at hgs
        obtain ⟨g', o', he, hcx⟩ := HR.out (by rw [HL.out]; omega)
        obtain ⟨rfl, rfl⟩ : g = g' ∧ o = o' := by simpa using he
        have ck := hcx k (by rw [HL.out]; exact hlt)
        have lg : g < w.heap.size := block_lt_of_cell ck
        rw [← (B3.trans (B.mono B3.size)).cell (p := ⟨g, o + k, none⟩) lg] at ck
        have hgd : xs.getD k 0 = xs[k]'(by rw [HL.out]; exact hlt) := by
          rw [List.getD_eq_getElem?_getD, List.getElem?_eq_getElem (by rw [HL.out]; exact hlt)]
          rfl
        rw [hgd] at hgs
        have HG : Hid (gath xs (k + 1) = gath xs k ++ [xs[k]'(by rw [HL.out]; exact hlt)]) := hgs
        generalize (xs[k]'(by rw [HL.out]; exact hlt)) = bv at ck HG
        have al := (Below.refl wr.heap.size wr).alloc (Nat.le_refl _) (.cells #[.int .u8 (bv.toNat : Int)] 5)
        have own1 := owns_below own al
        have hn : Rd (wr.alloc (.cells #[.int .u8 (bv.toNat : Int)] 5)) (some ⟨wr.heap.size, 0, none⟩) [bv] := (own_lit wr [bv]).rd
        have B4 := B.alloc B.size (.cells #[.int .u8 (bv.toNat : Int)] 5)
        obtain ⟨N, hN⟩ : ∃ N, N = (gath xs k).length := ⟨_, rfl⟩
        rw [← hN] at own1 hgb ⊢
        have HN : Hid (N = (gath xs k).length) := hN
        clear hN own hgs hgd hcx he B al h8
        go_wp2_with (at_builtin; refine wpList_append_bytes rfl _ _ rfl W1.heap.size _ N _ rfl own1 (some ⟨wr.heap.size, 0, none⟩) _ _ [bv] rfl rfl hn (fun h => by cases h) (by omega) B4.size ?_)
        intro v' w' own' gr'
        have B' := B4.grown gr' B4.size (fun j e => (owns_block own1 j e).1)
        have own'' : Hid (w'.ownsRow W1.heap.size 5 1 v' (gath xs (k + 1)).length (bcs (gath xs (k + 1)))) := by
          show w'.ownsRow W1.heap.size 5 1 v' _ _
          rw [HG.out, bcs_append, List.length_append, ← HN.out]
          exact own'
        clear own1 own' gr' hn B4 ck
        go_wp2_with fail
        go_roundw
        case rel => exact ⟨k + 1, by omega, by push_cast; rfl, own''.out, B'⟩
        case measure => simp [intOf]; omega
      · have hi8 : ¬ (8 : Int) ≤ (k : Int) % 512 := by omega
        rw [if_neg h8] at hgs
        have HG : Hid (gath xs (k + 1) = gath xs k) := hgs
        have own1 : Hid (wr.ownsRow W1.heap.size 5 1 (.slice av (gath xs k).length cv) (gath xs (k + 1)).length (bcs (gath xs (k + 1)))) := by
          show wr.ownsRow W1.heap.size 5 1 _ _ _
          rw [HG.out]
          exact own
        clear hgs own h8 hgb
        go_wp2_with fail
        go_roundw
        case rel => exact ⟨k + 1, by omega, by push_cast; rfl, own1.out, B⟩
        case measure => simp [intOf]; omega
    · have hk2 : k = 4096 := by omega
      subst hk2
      clear hlt hk hgb
      have hbl := bodyX_length xs HL.out
      rw [gath_all xs HL.out, hbl] at own
      rw [gath_all xs HL.out, hbl]
      obtain ⟨BX, hBX⟩ : ∃ BX, BX = bodyX xs := ⟨_, rfl⟩
      rw [← hBX] at own hbl
      have HBX : Hid (BX = bodyX xs) := hBX
      clear hBX
      obtain ⟨av', cv', hv', _, hc1, _, hrd, hgg⟩ := owns_rd own
      obtain ⟨gb, hgb, lgb, lgb2⟩ := hgg (by omega)
      injection hv' with e1 _ e3
      subst e1 e3 hgb
      have hcn : BX.length = 4032 := hbl
      have nn : numAt BX 0 2 = some (cntOf BX) := by
        have := numAt_some (xs := BX) (k := 0) (size := 2) (by omega)
        rw [List.drop_zero] at this
        exact this
      have cN := refNumber_at cv 4032 (some ⟨gb, 0, none⟩) BX 0 2 2 wr rfl hbl (by omega) (by omega) (by omega) hrd
      rw [nn] at cN
      dsimp only [Option.getD_some, Option.isSome_some] at cN
      have HRD : Hid (Rd wr (some ⟨gb, 0, none⟩) BX) := hrd
      have HBL : Hid (BX.length = 4032) := hbl
      have hcl : cntOf BX < 65536 := be2_lt BX
      obtain ⟨n, hn⟩ : ∃ n, n = cntOf BX := ⟨_, rfl⟩
      rw [← hn] at cN hcl
      have HN : Hid (n = cntOf BX) := hn
      have hW1 : w.heap.size + 1 < W1.heap.size := x8.lt
      have row9 : RowB wr gb cv BX := by
        obtain ⟨g2, c2, e2, _, h2⟩ := RowB.owns own (by omega)
        injection e2 with f1 _ f3
        injection f1 with f1
        injection f1 with f1
        subst f1 f3
        exact h2
      replace x2' := x2'.below B
      replace x8 := x8.below B
      replace B3 := B3.trans (B.mono B3.size)
      clear hn own hrd hgg hbl hcn nn B
      go_wp2_with fail
      refine cN.mono ?_
      rintro r w5 ⟨rfl, rfl⟩
      clear cN
      by_cases hn32 : n ≤ 32
      · have hni : ¬ (32 : Int) < (n : Int) := by omega
        have wn : IntKind.i64.wrap (n : Int) = (n : Int) := by rw [IntKind.wrap_i64]; omega
        have HSE : Hid (saidEs xs = entsOf BX n) := by
          show saidEs xs = _
          unfold saidEs
          rw [← HBX.out, ← HN.out, if_pos hn32]
        clear HN HRD
        go_wp2_with fail
        go_loopw [13] (fun v u => ∃ (k : Nat) (sv : Value) (qs : List GG), k ≤ n ∧ v = .int .i64 (k : Int) ∧ Box u w.heap.size #[.int .i64 0, .int .i64 0, .slice none 0 0] 28 ∧ Box u (w.heap.size + 1) #[.int .i64 (E : Int), .int .i64 (S : Int), sv] 28 ∧ u.ownsRow w.heap.size 38 2 sv k (imgC qs) ∧ GetJ w.heap.size u qs ∧ qs.length = k ∧ (∀ i (h : i < qs.length), (qs[i]).b = ((entOf BX i).1 : Int) ∧ DtK (entOf BX i).2 64 (qs[i]).xs) ∧ RowB u gb cv BX ∧ Below w.heap.size w u) (fun v _ => n - (intOf v).toNat)
        case atStart => exact ⟨0, _, [], Nat.zero_le _, rfl, x2', x8, World.ownsRow_nil _ _ _ _, ⟨fun p hp => (by cases hp), List.nodup_nil⟩, rfl, fun i h => (by simp at h), row9, B3⟩
        case round =>
          clear x2' x8 row9 B3
          obtain ⟨W, rfl⟩ : ∃ W, W = wr := ⟨_, rfl⟩
          obtain ⟨k, sv, qs, hk, rfl, x2, x8, own, hJ, hql, hqs, row, B⟩ := hrel
          obtain ⟨av, cw, rfl⟩ := owns_shape own
          have HQL : Hid (qs.length = k) := hql
          have HQS : Hid (∀ i (h : i < qs.length), (qs[i]).b = ((entOf BX i).1 : Int) ∧ DtK (entOf BX i).2 64 (qs[i]).xs) := hqs
          clear hql hqs
          by_cases hlt : k < n
          · have hki : (k : Int) < (n : Int) := by omega
            have nn : numAt BX (6 + 66 * (k : Int)) 2 = some (entOf BX k).1 := by
              have := numAt_some (xs := BX) (k := 6 + k * 66) (size := 2) (by rw [HBL.out]; omega)
              have e : ((6 + k * 66 : Nat) : Int) = 6 + 66 * (k : Int) := by omega
              rw [e] at this
              exact this
            have cN := refNumber_at cv 4032 (some ⟨gb, 0, none⟩) BX (6 + 66 * (k : Int)) 2 2 W rfl HBL.out (by omega) (by omega) (by omega) row.rd
            rw [nn] at cN
            dsimp only [Option.getD_some, Option.isSome_some] at cN
            obtain ⟨bn, hbn⟩ : ∃ bn, bn = (entOf BX k).1 := ⟨_, rfl⟩
            have hbl : bn < 65536 := by
              rw [hbn]
              exact be2_lt _
            rw [← hbn] at cN
            have HBN : Hid (bn = (entOf BX k).1) := hbn
            have wbn : IntKind.i64.wrap (bn : Int) = (bn : Int) := by rw [IntKind.wrap_i64]; omega
            clear hbn nn
            go_wp2_with fail
            refine cN.mono ?_
            rintro r w6 ⟨rfl, rfl⟩
            clear cN
            have hm : ∀ u : World, (Instr.makeSlice 31 (.int .i64 4096) (.int .i64 4096)).run Try.prog u = .ok (.slice (some ⟨u.heap.size, 0, none⟩) 4096 4096) (u.alloc (.cells (bcs (nought 4096)).toArray 5)) := make_run 4096 (by omega)
            have o0 := own_lit W (nought 4096)
            have B0 := (Below.refl W.heap.size W).alloc (Nat.le_refl _) (.cells (bcs (nought 4096)).toArray 5)
            have HD0 : Hid (DtK (entOf BX k).2 0 (nought 4096)) := DtK.start _
            have ln4 : (nought 4096).length = 4096 := nought_length _
            obtain ⟨zz, hzz⟩ : ∃ zz, zz = nought 4096 := ⟨_, rfl⟩
            rw [← hzz] at hm o0 B0 HD0 ln4
            clear hzz
            have rz : RowB (W.alloc (.cells (bcs zz).toArray 5)) W.heap.size 4096 zz := by
              have := RowB.own o0 (by rw [ln4]; decide)
              rwa [ln4] at this
            obtain ⟨U, hU⟩ : ∃ U, U = W.alloc (.cells (bcs zz).toArray 5) := ⟨_, rfl⟩
            rw [← hU] at rz B0
            have HU : Hid (U = W.alloc (.cells (bcs zz).toArray 5)) := hU
            clear hU o0
            go_wp2_with fail
            rw [← HU.out]
            clear HU hm
            go_loopw [18] (fun v u => ∃ (t : Nat) (Y : List UInt8), t ≤ 64 ∧ v = .int .i64 (t : Int) ∧ DtK (entOf BX k).2 t Y ∧ RowB u W.heap.size 4096 Y ∧ Below W.heap.size W u) (fun v _ => 64 - (intOf v).toNat)
            case atStart => exact ⟨0, zz, by omega, rfl, HD0.out, rz, B0⟩
            case round =>
              clear rz B0 HD0 ln4
              obtain ⟨t, Y, ht, rfl, hY, rowY, bB⟩ := hrel
              by_cases htl : t < 64
              · have hti : (t : Int) < 64 := by omega
                obtain ⟨q, hq⟩ : ∃ q : Nat, (t : Int) / 8 = (q : Int) := ⟨t / 8, by omega⟩
                obtain ⟨r, hr⟩ : ∃ r : Nat, (t : Int) % 8 = (r : Int) := ⟨t % 8, by omega⟩
                obtain ⟨m, hmm⟩ : ∃ m : Nat, 6 + 66 * (k : Int) + 2 + (t : Int) = (m : Int) := ⟨8 + k * 66 + t, by omega⟩
                obtain ⟨p, hpp⟩ : ∃ p : Nat, (q : Int) * 512 + (r : Int) = (p : Int) := ⟨q * 512 + r, by omega⟩
                have hpe : Hid (p = hpos t) := by show p = hpos t; unfold hpos; omega
                have hme : Hid (m = 8 + k * 66 + t) := by show m = 8 + k * 66 + t; omega
                have hml : (m : Int) < 4032 := by omega
                have hpl : (p : Int) < 4096 := by omega
                have rowB := row.same (bB.block _ row.lt)
                obtain ⟨cm, _⟩ := rowB.cellAt (j := m) (by rw [HBL.out]; omega)
                obtain ⟨cp, fp⟩ := rowY.cellAt (j := p) (by rw [hY.len]; omega)
                have hv : Hid ((entOf BX k).2[t]? = some (BX[m]'(by rw [HBL.out]; omega))) := by
                  show (entOf BX k).2[t]? = _
                  unfold entOf
                  show ((BX.drop (8 + k * 66)).take 64)[t]? = _
                  rw [List.getElem?_take, if_pos htl, List.getElem?_drop, ← hme.out]
                  exact List.getElem?_eq_getElem (by rw [HBL.out]; omega)
                generalize (BX[m]'(by rw [HBL.out]; omega)) = bv at cm hv
                have rowZ : Hid (RowB (wr.setCell ⟨W.heap.size, p, none⟩ (.int .u8 (bv.toNat : Int))) W.heap.size 4096 (Y.set p bv)) := rowY.byte p (by rw [hY.len]; omega) bv
                have HY : Hid (DtK (entOf BX k).2 (t + 1) (Y.set p bv)) := by
                  rw [hpe.out]
                  exact hY.put htl bv hv.out
                have BZ : Hid (Below W.heap.size W (wr.setCell ⟨W.heap.size, p, none⟩ (.int .u8 (bv.toNat : Int)))) := bB.setCell (p := ⟨W.heap.size, p, none⟩) (Nat.le_refl _) _
                generalize ((Y[p]'(by rw [hY.len]; omega)).toNat : Int) = cz at cp
                have hm0 : (0 : Int) ≤ (m : Int) := by omega
                have hp0 : (0 : Int) ≤ (p : Int) := by omega
                have hcv : (4032 : Int) ≤ (cv : Int) := by omega
                clear rowY rowB hY bB htl
                go_wp2_with fail
                go_roundw
                case rel => exact ⟨t + 1, _, by omega, by push_cast; rfl, HY.out, rowZ.out, BZ.out⟩
                case measure => simp [intOf]; omega
              · have ht64 : t = 64 := by omega
                rw [ht64] at hY ⊢
                clear ht64 htl ht
                have x2b := x2.below bB
                have x8b := x8.below bB
                have c2 := x8b.cell 2
                have f2 := x8b.frozen 2
                have J2 : GetJ w.heap.size wr (qs ++ [⟨(bn : Int), Y, W.heap.size, 4096⟩]) := hJ.snoc bB ⟨(bn : Int), Y, W.heap.size, 4096⟩ rowY (Nat.le_refl _) hY.len B.size
                have own1 := owns_below own bB
                have rowB := row.same (bB.block _ row.lt)
                have BB := B.trans (bB.mono B.size)
                have al := (Below.refl wr.heap.size wr).alloc (Nat.le_refl _) (.cells #[.int .i64 (bn : Int), .slice (some ⟨W.heap.size, 0, none⟩) 4096 4096] 38)
                have bN := Box.new wr #[.int .i64 (bn : Int), .slice (some ⟨W.heap.size, 0, none⟩) 4096 4096] 38
                replace own1 := owns_below own1 al
                replace J2 := J2.below al
                have x2c := x2b.below al
                have x8c := x8b.below al
                have rowC := rowB.same (al.block _ rowB.lt)
                replace BB := BB.trans (al.mono BB.size)
                have hcN : ∀ j u, ([.int .i64 (bn : Int), .slice (some ⟨W.heap.size, 0, none⟩) 4096 4096] : List Value)[j]? = some u → (wr.alloc (.cells #[.int .i64 (bn : Int), .slice (some ⟨W.heap.size, 0, none⟩) 4096 4096] 38)).cell? ((⟨wr.heap.size, 0, none⟩ : Addr).add j) = some u := fun j u hj => by
                  rw [Addr.add_lit, Nat.zero_add, bN.cell j]
                  simpa using hj
                have HY : Hid (DtK (entOf BX k).2 64 Y) := hY
                have hn32' : k ≤ 32 := by omega
                clear rowY bB hY x2b x8b rowB x2 x8 row own hJ B
                go_wp2_with (at_builtin; refine wpList_append_own _ rfl _ _ 26 rfl w.heap.size 38 i0 _ 2 32 Try.underlying26 hi hz0 hz1 hz2 rfl (by decide) _ k _ rfl own1 ⟨wr.heap.size, 0, none⟩ 1 1 [.int .i64 (bn : Int), .slice (some ⟨W.heap.size, 0, none⟩) 4096 4096] rfl rfl hcN ?c2 ?c3 ?c4 BB.size ?_)
                case c2 => intro u hu; simp at hu; rcases hu with rfl | rfl <;> rfl
                case c3 => unfold maxLen; omega
                case c4 => omega
                intro v' w4 own4 hg4 _
                have J4 := J2.grown own1 (by decide) hg4
                have B4 := BB.grown hg4 BB.size (fun j e => (owns_block own1 j e).1)
                have x2d : Box w4 w.heap.size #[.int .i64 0, .int .i64 0, .slice none 0 0] 28 := (hg4.block _ x2c.lt (fun e => by
                  obtain ⟨_, cur, hb⟩ := owns_block own1 _ e.symm
                  exact Box.ne hb x2c (by decide) rfl)).trans x2c
                have x8d : Box w4 (w.heap.size + 1) #[.int .i64 (E : Int), .int .i64 (S : Int), .slice av k cw] 28 := (hg4.block _ x8c.lt (fun e => by
                  obtain ⟨_, cur, hb⟩ := owns_block own1 _ e.symm
                  exact Box.ne hb x8c (by decide) rfl)).trans x8c
                have rowD : RowB w4 gb cv BX := rowC.same (hg4.block _ rowC.lt (fun e => by
                  obtain ⟨_, cur, hb⟩ := owns_block own1 _ e.symm
                  obtain ⟨cur2, hb2, _⟩ := rowC
                  exact Box.ne hb2 hb (by decide) rfl))
                obtain ⟨ts, hts⟩ : ∃ ts, ts = qs ++ [⟨(bn : Int), Y, W.heap.size, 4096⟩] := ⟨_, rfl⟩
                have hcells : imgC ts = imgC qs ++ [.int .i64 (bn : Int), .slice (some ⟨W.heap.size, 0, none⟩) 4096 4096] := by rw [hts]; simp [imgC]
                rw [← hcells] at own4
                rw [← hts] at J4
                have HTL : Hid (ts.length = k + 1) := by show ts.length = k + 1; rw [hts, List.length_append, HQL.out]; rfl
                have HTS : Hid (∀ i (h : i < ts.length), (ts[i]).b = ((entOf BX i).1 : Int) ∧ DtK (entOf BX i).2 64 (ts[i]).xs) := by
                  intro i h
                  subst hts
                  by_cases hiq : i < qs.length
                  · rw [List.getElem_append_left hiq]
                    exact HQS.out i hiq
                  · have hik : i = k := by
                      rw [List.length_append, HQL.out] at h
                      simp at h
                      rw [HQL.out] at hiq
                      omega
                    subst hik
                    rw [List.getElem_append_right (by omega)]
                    simp only [HQL.out, Nat.sub_self, List.getElem_cons_zero]
                    exact ⟨by rw [HBN.out], HY.out⟩
                obtain ⟨av4, cw4, rfl⟩ := owns_shape own4
                have c4 := x8d.cell 2
                have f4 := x8d.frozen 2
                have O5 : Hid ((w4.setCell ⟨w.heap.size + 1, 2, none⟩ (.slice av4 (k + 1) cw4)).ownsRow w.heap.size 38 2 (.slice av4 (k + 1) cw4) (k + 1) (imgC ts)) := by
                  refine owns_grown own4 (grown_store _ _ _ _) (fun g h1 h2 => ?_)
                  injection h2 with h2
                  subst h2
                  obtain ⟨_, cur, hb⟩ := owns_block own4 _ h1
                  exact Box.ne hb x8d (by decide) rfl
                have X5 : Box (w4.setCell ⟨w.heap.size + 1, 2, none⟩ (.slice av4 (k + 1) cw4)) (w.heap.size + 1) #[.int .i64 (E : Int), .int .i64 (S : Int), .slice av4 (k + 1) cw4] 28 := by simpa using x8d.store 2 (.slice av4 (k + 1) cw4)
                have X6 : Box (w4.setCell ⟨w.heap.size + 1, 2, none⟩ (.slice av4 (k + 1) cw4)) w.heap.size #[.int .i64 0, .int .i64 0, .slice none 0 0] 28 := (heap_setCell_other w4 ⟨w.heap.size + 1, 2, none⟩ w.heap.size _ (by simp)).trans x2d
                have J5 : Hid (GetJ w.heap.size (w4.setCell ⟨w.heap.size + 1, 2, none⟩ (.slice av4 (k + 1) cw4)) ts) := J4.store x8d (by decide) _
                have R5 : Hid (RowB (w4.setCell ⟨w.heap.size + 1, 2, none⟩ (.slice av4 (k + 1) cw4)) gb cv BX) := rowD.same (heap_setCell_other w4 ⟨w.heap.size + 1, 2, none⟩ gb _ (fun e => by
                  obtain ⟨cur2, hb2, _⟩ := rowD
                  exact Box.ne hb2 x8d (by decide) e))
                have B5 := B4.setCell (p := ⟨w.heap.size + 1, 2, none⟩) (Nat.le_succ _) (.slice av4 (k + 1) cw4)
                clear own1 J2 BB bN al hcN hg4 own4 x2c x8c rowC x2d x8d rowD J4 B4 c2 f2 hcells hts
                go_wp2_with fail
                go_roundw
                case rel => exact ⟨k + 1, _, ts, by omega, by push_cast; rfl, X6, X5, O5.out, J5.out, HTL.out, HTS.out, R5.out, B5⟩
                case measure => simp [intOf]; omega
          · have hke : k = n := by omega
            have hge : Hid (SaidG xs (qs.map fun p => (p.b, p.xs))) := by
              refine ⟨?_, fun i h h' => ?_, fun i h h' => ?_⟩
              · rw [List.length_map, HQL.out, HSE.out, entsOf, List.length_map, List.length_range, hke]
              · have hi' : i < qs.length := by simpa using h
                rw [List.getElem_map]
                have e : (saidEs xs)[i] = entOf BX i := by simp [HSE.out, entsOf]
                rw [e]
                exact (HQS.out i hi').1
              · have hi' : i < qs.length := by simpa using h
                rw [List.getElem_map]
                have e : (saidEs xs)[i] = entOf BX i := by simp [HSE.out, entsOf]
                rw [e]
                exact (HQS.out i hi').2
            have HSL : Hid ((saidEs xs).length = n) := by show (saidEs xs).length = n; rw [HSE.out, entsOf, List.length_map, List.length_range]
            rw [hke] at own x8 HQL
            have hT : Hid (ReadT w E S n av cw qs W) := ReadT.new ⟨x8, own, hJ, B⟩
            have HHD := hge.out.head HL.out
            rw [← HE.out, ← HS.out] at HHD
            have HH : Hid (isHead xs ↔ okGroup (E : Int) (S : Int) (qs.map fun p => (p.b, p.xs)) ∧ headB E S (entL (mark E S) (qs.map fun p => (p.b, p.xs))) = xs) := HHD
            have hil : (qs.map fun p => (p.b, p.xs)).length = n := by rw [List.length_map, HQL.out]
            have HX2 : Hid (Box W w.heap.size #[.int .i64 0, .int .i64 0, .slice none 0 0] 28) := x2
            rw [hke]
            clear hke hlt hk own hJ x8 x2 HHD row hni wn HBX HSE
            by_cases hok : okGroup (E : Int) (S : Int) (qs.map fun p => (p.b, p.xs))
            · have cR : Hid (∀ u, ReadT w E S n av cw qs u → Calls Try.prog 42 #[.agg #[.int .i64 (E : Int), .int .i64 (S : Int), .slice av n cw]] u fun r w' => r = .returned (.bool true) ∧ Below u.heap.size u w') := fun u hu => (rright_at E S av n cw _ u hil (hu.imgs HQL.out)).mono fun r w' ⟨q, h1, h2, h3⟩ => ⟨by rw [h1, h2.2 hok], h3⟩
              have cH : Hid (∀ u, ReadT w E S n av cw qs u → Calls Try.prog 43 #[.agg #[.int .i64 (E : Int), .int .i64 (S : Int), .slice av n cw]] u fun r w' => ∃ g c, r = .returned (.slice (some ⟨g, 0, none⟩) 4096 c) ∧ RowB w' g c (headB E S (entL (mark E S) (qs.map fun p => (p.b, p.xs)))) ∧ Below u.heap.size u w') := fun u hu => (rhead_at E S av n cw _ u hil (hu.imgs HQL.out) hok).mono fun r w' ⟨v, h1, h2, h3⟩ => by
                obtain ⟨g, c, rfl, _, hrow⟩ := RowB.owns h2 (by omega)
                exact ⟨g, c, h1, hrow, h3⟩
              have hd4 : Hid ((headB E S (entL (mark E S) (qs.map fun p => (p.b, p.xs)))).length = 4096) := headB_length (bodyB_length _ (entL_len hok) (by rw [entL_length]; exact (is_length hok).2))
              obtain ⟨hB, hBd⟩ : ∃ hB, hB = headB E S (entL (mark E S) (qs.map fun p => (p.b, p.xs))) := ⟨_, rfl⟩
              rw [← hBd] at cH HH hd4
              have HOK : Hid (okGroup (E : Int) (S : Int) (qs.map fun p => (p.b, p.xs))) := hok
              clear hBd hok
              by_cases heq : hB = xs
              · have hyes : Hid (isHead xs) := HH.out.2 ⟨HOK.out, heq⟩
                have hbb : (hB == xs) = true := by simp [heq]
                have HBB : Hid ((hB == xs) = true) := hbb
                clear heq hbb HH
                go_wp2_with fail
                go_region_held3 (fun u => u.cell? ⟨w.heap.size + 1, 0, none⟩ = some (.int .i64 (E : Int)) ∧ u.cell? ⟨w.heap.size + 1, 1, none⟩ = some (.int .i64 (S : Int)) ∧ u.cell? ⟨w.heap.size + 1, 2, none⟩ = some (.slice av n cw) ∧ Hid (ReadS w E S n av cw qs u))
                  (first | with_reducible exact ReadT.below ((Below.refl _ W).drew) hT.out | with_reducible exact ReadT.below b (by with_reducible assumption) | with_reducible exact ReadT.put3 X2 (by with_reducible assumption) | with_reducible assumption)
                  (first
                    | (go_at_call 42; refine Calls.mono (cR.out _ (by with_reducible assumption)) ?_; rintro e u1 ⟨rfl, b⟩; have X1 : Hid (Box u1 w.heap.size #[.int .i64 0, .int .i64 0, .slice none 0 0] 28) := (HX2.out.below ((Below.refl _ W).drew)).below b)
                    | (go_at_call 43; refine Calls.mono (cH.out _ (by with_reducible assumption)) ?_; clear b; rintro e u2 ⟨gh, ch, rfl, rowH, b⟩; have X2 := X1.out.below b; have y0 := X2.cell 0; have y1 := X2.cell 1; have y2 := X2.cell 2; have k0 := X2.frozen 0; have k1 := X2.frozen 1; have k2 := X2.frozen 2)
                    | (go_at_call 9; refine Calls.mono (same_at ch cap 4096 4096 _ _ hB xs _ hd4.out HL.out rowH.rd (HR.out.below (show ReadT w E S n av cw qs _ by with_reducible assumption).2.2.2.out.B (Nat.le_refl _))) ?_; rintro e u3 ⟨rfl, rfl⟩; rw [HBB.out]))
                have XF : Box (((u2.setCell ⟨w.heap.size, 0, none⟩ (.int .i64 (E : Int))).setCell ⟨w.heap.size, 1, none⟩ (.int .i64 (S : Int))).setCell ⟨w.heap.size, 2, none⟩ (.slice av n cw)) w.heap.size #[.int .i64 (E : Int), .int .i64 (S : Int), .slice av n cw] 28 := by simpa using ((X2.store 0 (.int .i64 (E : Int))).store 1 (.int .i64 (S : Int))).store 2 (.slice av n cw)
                have d0 := XF.cell 0
                have d1 := XF.cell 1
                have d2 := XF.cell 2
                simp at d0 d1 d2
                have hfin : ReadT w E S n av cw qs (((u2.setCell ⟨w.heap.size, 0, none⟩ (.int .i64 (E : Int))).setCell ⟨w.heap.size, 1, none⟩ (.int .i64 (S : Int))).setCell ⟨w.heap.size, 2, none⟩ (.slice av n cw)) := by with_reducible assumption
                clear y0 y1 y2 k0 k1 k2
                go_wp2_with fail
                refine bodyPost_ret (v := .tuple #[.agg #[.int .i64 (E : Int), .int .i64 (S : Int), .slice av n cw], .bool true]) (by simp [results, Try.results45, go_sem, d0, d1, d2]) rfl ?_
                refine .inl ⟨hyes.out, av, cw, qs, ?_, ?_, hfin.2.2.2.out.J, hge.out, hfin.2.2.2.out.B⟩
                · rw [← HE.out, ← HS.out, HSL.out]
                · rw [HSL.out]
                  exact hfin.2.2.2.out.own
              · have hno : Hid (¬ isHead xs) := fun h => heq (HH.out.1 h).2
                have HBB : Hid ((hB == xs) = false) := by show (hB == xs) = false; simp [heq]
                clear heq HH
                go_wp2_with fail
                go_region_held3 (fun u => u.cell? ⟨w.heap.size + 1, 0, none⟩ = some (.int .i64 (E : Int)) ∧ u.cell? ⟨w.heap.size + 1, 1, none⟩ = some (.int .i64 (S : Int)) ∧ u.cell? ⟨w.heap.size + 1, 2, none⟩ = some (.slice av n cw) ∧ Hid (ReadS w E S n av cw qs u))
                  (first | with_reducible exact ReadT.below ((Below.refl _ W).drew) hT.out | with_reducible exact ReadT.below b (by with_reducible assumption) | with_reducible exact ReadT.put3 X2 (by with_reducible assumption) | with_reducible assumption)
                  (first
                    | (go_at_call 42; refine Calls.mono (cR.out _ (by with_reducible assumption)) ?_; rintro e u1 ⟨rfl, b⟩; have X1 : Hid (Box u1 w.heap.size #[.int .i64 0, .int .i64 0, .slice none 0 0] 28) := (HX2.out.below ((Below.refl _ W).drew)).below b)
                    | (go_at_call 43; refine Calls.mono (cH.out _ (by with_reducible assumption)) ?_; clear b; rintro e u2 ⟨gh, ch, rfl, rowH, b⟩; have X2 := X1.out.below b; have y0 := X2.cell 0; have y1 := X2.cell 1; have y2 := X2.cell 2; have k0 := X2.frozen 0; have k1 := X2.frozen 1; have k2 := X2.frozen 2)
                    | (go_at_call 9; refine Calls.mono (same_at ch cap 4096 4096 _ _ hB xs _ hd4.out HL.out rowH.rd (HR.out.below (show ReadT w E S n av cw qs _ by with_reducible assumption).2.2.2.out.B (Nat.le_refl _))) ?_; rintro e u3 ⟨rfl, rfl⟩; rw [HBB.out]))
                have XF : Box (((u2.setCell ⟨w.heap.size, 0, none⟩ (.int .i64 (E : Int))).setCell ⟨w.heap.size, 1, none⟩ (.int .i64 (S : Int))).setCell ⟨w.heap.size, 2, none⟩ (.slice av n cw)) w.heap.size #[.int .i64 (E : Int), .int .i64 (S : Int), .slice av n cw] 28 := by simpa using ((X2.store 0 (.int .i64 (E : Int))).store 1 (.int .i64 (S : Int))).store 2 (.slice av n cw)
                have d0 := XF.cell 0
                have d1 := XF.cell 1
                have d2 := XF.cell 2
                simp at d0 d1 d2
                have hfin : ReadT w E S n av cw qs (((u2.setCell ⟨w.heap.size, 0, none⟩ (.int .i64 (E : Int))).setCell ⟨w.heap.size, 1, none⟩ (.int .i64 (S : Int))).setCell ⟨w.heap.size, 2, none⟩ (.slice av n cw)) := by with_reducible assumption
                clear y0 y1 y2 k0 k1 k2
                go_wp2_with fail
                refine bodyPost_ret (v := .tuple #[.agg #[.int .i64 (E : Int), .int .i64 (S : Int), .slice av n cw], .bool false]) (by simp [results, Try.results45, go_sem, d0, d1, d2]) rfl ?_
                exact .inr ⟨hno.out, _, _, _, _, _, rfl, hfin.2.2.2.out.B⟩
            · have hno : Hid (¬ isHead xs) := fun h => hok (HH.out.1 h).1
              have cR : Hid (∀ u, ReadT w E S n av cw qs u → Calls Try.prog 42 #[.agg #[.int .i64 (E : Int), .int .i64 (S : Int), .slice av n cw]] u fun r w' => r = .returned (.bool false) ∧ Below u.heap.size u w') := fun u hu => (rright_at E S av n cw _ u hil (hu.imgs HQL.out)).mono fun r w' ⟨q, h1, h2, h3⟩ => ⟨by
                cases q with
                | false => exact h1
                | true => exact absurd (h2.1 rfl) hok, h3⟩
              clear hok HH
              have z0 := hT.out.1
              have z1 := hT.out.2.1
              have z2 := hT.out.2.2.1
              go_wp2_with fail
              first | go_region_with (first
                | (go_at_call 42; refine Calls.mono (cR.out _ (ReadT.below ((Below.refl _ W).drew) hT.out)) ?_; rintro e u1 ⟨rfl, b⟩; have T1 : Hid (ReadT w E S n av cw qs u1) := ReadT.below b (ReadT.below ((Below.refl _ W).drew) hT.out); have q0 := T1.out.1; have q1 := T1.out.2.1; have q2 := T1.out.2.2.1; have X2 : Box u1 w.heap.size #[.int .i64 0, .int .i64 0, .slice none 0 0] 28 := (HX2.out.below ((Below.refl _ W).drew)).below b; have y0 := X2.cell 0; have y1 := X2.cell 1; have y2 := X2.cell 2; have k0 := X2.frozen 0; have k1 := X2.frozen 1; have k2 := X2.frozen 2)) | fail
              all_goals
                have XF : Box (((u1.setCell ⟨w.heap.size, 0, none⟩ (.int .i64 (E : Int))).setCell ⟨w.heap.size, 1, none⟩ (.int .i64 (S : Int))).setCell ⟨w.heap.size, 2, none⟩ (.slice av n cw)) w.heap.size #[.int .i64 (E : Int), .int .i64 (S : Int), .slice av n cw] 28 := by simpa using ((X2.store 0 (.int .i64 (E : Int))).store 1 (.int .i64 (S : Int))).store 2 (.slice av n cw)
                have d0 := XF.cell 0
                have d1 := XF.cell 1
                have d2 := XF.cell 2
                simp at d0 d1 d2
                have hfin : ReadT w E S n av cw qs (((u1.setCell ⟨w.heap.size, 0, none⟩ (.int .i64 (E : Int))).setCell ⟨w.heap.size, 1, none⟩ (.int .i64 (S : Int))).setCell ⟨w.heap.size, 2, none⟩ (.slice av n cw)) := ReadT.put3 X2 T1.out
                clear y0 y1 y2 k0 k1 k2
                go_wp2_with fail
                refine bodyPost_ret (v := .tuple #[.agg #[.int .i64 (E : Int), .int .i64 (S : Int), .slice av n cw], .bool false]) (by simp [results, Try.results45, go_sem, d0, d1, d2]) rfl ?_
                exact .inr ⟨hno.out, _, _, _, _, _, rfl, hfin.2.2.2.out.B⟩
      · have hni : (32 : Int) < (n : Int) := by omega
        have hno : Hid (¬ isHead xs) := fun h => by
          have h1 := h.2.1.2.1.1
          rw [List.length_map] at h1
          have : saidEs xs = [] := by
            unfold saidEs
            rw [← HBX.out, ← HN.out, if_neg hn32]
          rw [this] at h1
          simp at h1
        have y0 := x2'.cell 0
        have y1 := x2'.cell 1
        have y2 := x2'.cell 2
        have k0 := x2'.frozen 0
        have k1 := x2'.frozen 1
        have k2 := x2'.frozen 2
        have XF : Box (((wr.setCell ⟨w.heap.size, 0, none⟩ (.int .i64 0)).setCell ⟨w.heap.size, 1, none⟩ (.int .i64 0)).setCell ⟨w.heap.size, 2, none⟩ (.slice none 0 0)) w.heap.size #[.int .i64 0, .int .i64 0, .slice none 0 0] 28 := by simpa using ((x2'.store 0 (.int .i64 0)).store 1 (.int .i64 0)).store 2 (.slice none 0 0)
        have d0 := XF.cell 0
        have d1 := XF.cell 1
        have d2 := XF.cell 2
        simp at d0 d1 d2
        have BF := ((B3.setCell (p := ⟨w.heap.size, 0, none⟩) (Nat.le_refl _) (.int .i64 0)).setCell (p := ⟨w.heap.size, 1, none⟩) (Nat.le_refl _) (.int .i64 0)).setCell (p := ⟨w.heap.size, 2, none⟩) (Nat.le_refl _) (.slice none 0 0)
        go_wp2_with fail
        refine bodyPost_ret (v := .tuple #[.agg #[.int .i64 0, .int .i64 0, .slice none 0 0], .bool false]) (by simp [results, Try.results45, go_sem, d0, d1, d2]) rfl ?_
        exact .inr ⟨hno.out, _, _, _, _, _, rfl, BF⟩
theorem rread_at (a : Option Addr) (n cap : Nat) (xs : List UInt8) (w : World) (hl : xs.length = n) (hr : Rd w a xs) (hcap : n ≤ cap) : Calls Try.prog 45 #[.slice a n cap] w (ReadR w xs) := by
  by_cases h4 : n = 4096
  · subst h4
    obtain ⟨g, o, rfl, _⟩ := hr (by omega)
    exact rread_in g o cap xs w hl hr hcap
  · exact rread_short a n cap xs w hl h4
end Go.Proofs.Ytghcmlkgpedkkaa
