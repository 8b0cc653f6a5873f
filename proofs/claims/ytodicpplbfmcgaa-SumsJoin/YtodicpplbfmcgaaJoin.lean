/-
  Sums that go on behind one another, and three lists held against each other: the walk of SumsJoin.
-/
import Derived.Test.YtodicpplbfmcgaaSums
import Derived.Laws.OwnMore
import Derived.BigQuiet
import Derived.Deep.RegionLaw
namespace Go.Proofs.Ytodicpplbfmcgaa
open Go.RowKit

theorem min_run (la lb lc n : Nat) (hn : n = min (min (min la lb) lc) 20000) (u : World) :
    (Builtin.min_ #[3, 3, 3, 3] 3 #[.int .i64 (la : Int), .int .i64 (lb : Int), .int .i64 (lc : Int), .int .i64 20000]).run Try.prog u = .ok (.int .i64 (n : Int)) u := by
  have e : (if (20000 : Int) < (if (lc : Int) < (if (lb : Int) < (la : Int) then (lb : Int) else (la : Int)) then (lc : Int) else (if (lb : Int) < (la : Int) then (lb : Int) else (la : Int))) then (20000 : Int) else (if (lc : Int) < (if (lb : Int) < (la : Int) then (lb : Int) else (la : Int)) then (lc : Int) else (if (lb : Int) < (la : Int) then (lb : Int) else (la : Int)))) = (n : Int) := by
    split <;> split <;> split <;> omega
  simp only [← e]
  simp [Builtin.min_, Builtin.min2]

/-- append onto a row of one's own, as one step of a region that draws its order. -/
theorem step_append_own {P : Program} {ops : Array Oper} {o : Oper} {a : Act} {w : World} {K : Act → World → Prop} {Q : Exit → Act → World → Prop} {E : Prop}
    (hg : o.guard = none) (s x : Operand) (t : TypeId) (hop : o.op = Op.call { callee := Callee.builtin Builtin.append, args := #[s, x], argTypes := #[t, t] })
    (base : Nat) (e : TypeId) (i : TypeInfo) (z : Value) (size bytes : Nat) (h1 : P.underlying t = some (.slice e)) (h2 : P.info? e = some i) (h3 : i.zero = some z) (h4 : i.size = size) (h5 : i.bytes = bytes) (h6 : z.cells.size = size) (h7 : 0 < size)
    (v : Value) (n : Nat) (olds : List Value) (hs : a.eval s = v) (hown : w.ownsRow base e size v n olds)
    (ad : Addr) (m c : Nat) (news : List Value) (hx : a.eval x = .slice (some ad) m c) (hn : news.length = m * size) (hc : ∀ j u, news[j]? = some u → w.cell? (ad.add j) = some u) (h1c : ∀ u ∈ news, u.oneCell' = true)
    (b1 : n + m ≤ maxLen) (b2 : (n + m) * bytes ≤ 140737488355328) (hb : base ≤ w.heap.size)
    (hK : ∀ v' w', w'.ownsRow base e size v' (n + m) (olds ++ news) → w.grownBy w' v.ownBlock → K (a.put o.dst v') w') :
    if Region.wanted o (yielded ops a.tmps) = true then Oper.wp P o a w K Q else E := by
  have hw : Region.wanted o (yielded ops a.tmps) = true := by simp [Region.wanted, hg]
  rw [if_pos hw]
  obtain ⟨v', w', hrun, r1, r2, _⟩ := run_append_own (P := P) w base t o.type e i z size bytes h1 h2 h3 h4 h5 h6 h7 v n olds hown ad m c news hn hc h1c b1 b2 hb
  unfold Oper.wp
  simp [execOp, hop, resolve, invoke, builtin, hs, hx, hrun, Result.andThen]
  exact hK v' w' r1 r2

/-- Three lists held against each other. -/
def xor3 (xs ys zs : List UInt8) : List UInt8 := List.zipWith (· ^^^ ·) (List.zipWith (· ^^^ ·) xs ys) zs
theorem xor3_length (xs ys zs : List UInt8) (n : Nat) (hx : xs.length = n) (hy : ys.length = n) (hz : zs.length = n) : (xor3 xs ys zs).length = n := by simp [xor3, hx, hy, hz]
theorem xor3_succ (xs ys zs : List UInt8) (n k : Nat) (hx : xs.length = n) (hy : ys.length = n) (hz : zs.length = n) (hk : k < n) :
    (xor3 xs ys zs).take (k + 1) = (xor3 xs ys zs).take k ++ [xs.getD k 0 ^^^ ys.getD k 0 ^^^ zs.getD k 0] := by
  rw [List.take_succ_eq_append_getElem (by rw [xor3_length xs ys zs n hx hy hz]; exact hk)]
  congr 2
  simp [xor3, List.getD, List.getElem?_eq_getElem (show k < xs.length by omega), List.getElem?_eq_getElem (show k < ys.length by omega), List.getElem?_eq_getElem (show k < zs.length by omega)]
theorem xor3_byte (x y z : UInt8) : bits .xor .u8 (bits .xor .u8 (x.toNat : Int) (y.toNat : Int)) (z.toNat : Int) = ((x ^^^ y ^^^ z).toNat : Int) := by
  have h : x.toNat ^^^ y.toNat < 256 := Nat.xor_lt_two_pow (n := 8) (u8_lt x) (u8_lt y)
  rw [xor_u8 _ _ (u8_lt x) (u8_lt y), xor_u8 _ _ h (u8_lt z), UInt8.toNat_xor, UInt8.toNat_xor]
theorem xor3_sum (a b c : Nat) (ha : a < 4294967296) (hb : b < 4294967296) (hc : c < 4294967296) : bits .xor .u32 (bits .xor .u32 (a : Int) (b : Int)) (c : Int) = ((a ^^^ b ^^^ c : Nat) : Int) := by
  rw [xor_u32 _ _ ha hb, xor_u32 _ _ (xor_lt ha hb) hc]

/-- The byte at a place of what lies there. -/
theorem Rd.at {w : World} {a : Option Addr} {xs : List UInt8} {n : Nat} (h : Rd w a xs) (hl : xs.length = n) (h0 : 0 < n) : ∃ b o, a = some ⟨b, o, none⟩ ∧ ∀ j, j < n → w.cell? ⟨b, o + j, none⟩ = some (.int .u8 ((xs.getD j 0).toNat : Int)) := by
  obtain ⟨b, o, ha, hc⟩ := h (by omega)
  refine ⟨b, o, ha, fun j hj => ?_⟩
  rw [hc j (by omega)]
  simp [List.getD, List.getElem?_eq_getElem (show j < xs.length by omega)]

theorem lit_cell (u : World) (V : Value) (j : Nat) (t : Value) (h : [V][j]? = some t) : (u.alloc (.cells #[V] 5)).cell? (Addr.add ⟨u.heap.size, 0, none⟩ j) = some t := by
  match j, h with
  | 0, h => simp at h; subst h; simp [Addr.add]

theorem one_cell (n : Int) : ∀ u ∈ [Value.int .u8 n], u.oneCell' = true := by
  intro u hu
  simp at hu
  subst hu
  rfl

theorem join_step {w wr w1 w' : World} {T : List UInt8} {u v' : Value} {k : Nat} {c : UInt8} {C : Int} (hC : C = (c.toNat : Int)) (hT : T.take (k + 1) = T.take k ++ [c]) (hbel : Below w.heap.size w wr) (hown : wr.ownsRow w.heap.size 5 1 u k (bcs (T.take k)))
    (h1 : Below wr.heap.size wr w1) (ho : w'.ownsRow w.heap.size 5 1 v' (k + 1) (bcs (T.take k) ++ [.int .u8 C])) (hg : w1.grownBy w' u.ownBlock) :
    w'.ownsRow w.heap.size 5 1 v' (k + 1) (bcs (T.take (k + 1))) ∧ Below w.heap.size w w' := by
  subst hC
  rw [append_bcs, ← hT] at ho
  have hb1 : Below w.heap.size w w1 := hbel.trans (h1.mono hbel.size)
  exact ⟨ho, hb1.grown hg hb1.size (fun j hj => (hown.lt j hj).1)⟩

set_option maxHeartbeats 2000000 in
set_option maxRecDepth 100000 in
theorem join_any (a b c : Option Addr) (ca cb cc la lb lc n : Nat) (xs ys zs : List UInt8) (w : World) (hn : n = min (min (min la lb) lc) 20000) (hla : la ≤ ca) (hlb : lb ≤ cb) (hlc : lc ≤ cc)
    (hma : ca ≤ 9223372036854775807) (_ : cb ≤ 9223372036854775807) (hmc : cc ≤ 9223372036854775807)
    (hx : xs.length = n) (hy : ys.length = n) (hz : zs.length = n) (rx : Rd w a xs) (ry : Rd w b ys) (rz : Rd w c zs) (na : a = none → ca = 0) (nb : b = none → cb = 0) (nc : c = none → cc = 0) :
    Calls Try.prog 6 #[.slice a la ca, .slice b lb cb, .slice c lc cc] w fun e w' => e = .returned (.bool true) ∧ Below w.heap.size w w' := by
  have Hx : Hid _ := hx
  have Hy : Hid _ := hy
  have Hz : Hid _ := hz
  clear hx hy hz
  have hmin := min_run la lb lc n hn
  have ha : n ≤ la := by omega
  have hb : n ≤ lb := by omega
  have hc : n ≤ lc := by omega
  have h2 : n ≤ 20000 := by omega
  clear hn
  go_enter Try.func6, Try.ntmps6
  go_wp2_with fail
  clear hmin
  go_quiet (fail)
  go_wp2_with fail
  have hB0 : Below w.heap.size w (w.drewN nq) := ⟨rfl, rfl, rfl, Nat.le_refl _, fun _ _ => rfl⟩
  generalize w.drewN nq = w0 at hB0 ⊢
  refine (copyBytes_at ca n a xs w0 Hx.out (by omega) (rx.below hB0 (Nat.le_refl _)) na).mono ?_
  rintro e w1 ⟨v, rfl, ho1, hb1⟩
  have hB1 := hB0.trans (hb1.mono hB0.size)
  have hs1 := hb1.size
  have hs0 := hB0.size
  clear hb1 hB0
  have ry1 := ry.below hB1 (Nat.le_refl _)
  go_wp2_with (at_builtin; refine wpList_append_bytes rfl _ _ rfl w0.heap.size v n (bcs xs) rfl ho1 b n cb ys rfl Hy.out ry1 nb (by omega) hs1 ?_)
  intro v' w2 ho2 hg2
  rw [← bcs_append] at ho2
  have hB2 : Below w.heap.size w w2 := hB1.grown hg2 hB1.size (fun k hk => Nat.le_trans hs0 (ho1.lt k hk).1)
  obtain ⟨a2, c2, rfl, hl2, hc2, hm2, r2, _⟩ := owns_rd ho2
  have Hl2 : Hid _ := hl2
  clear ho1 hg2 ho2 ry1 hB1 hs1 hs0 hl2
  go_wp2_with fail
  refine (crc_at ca n a xs w2 Hx.out (by omega) (rx.below hB2 (Nat.le_refl _))).mono ?_
  rintro e w3 ⟨rfl, hb3⟩
  have hB3 := hB2.trans (hb3.mono hB2.size)
  have r3 := r2.below hb3 (Nat.le_refl _)
  clear hb3 r2 hB2
  go_wp2_with fail
  refine (more_at cb n b ys (crc 0 xs) _ w3 rfl Hy.out (by omega) (crc_lt _ _) (ry.below hB3 (Nat.le_refl _))).mono ?_
  rintro e w4 ⟨rfl, hb4⟩
  rw [crc_append]
  have hB4 := hB3.trans (hb4.mono hB3.size)
  have r4 := r3.below hb4 (Nat.le_refl _)
  clear hb4 r3 hB3
  go_wp2_with fail
  refine (crc_at c2 (n + n) a2 (xs ++ ys) w4 Hl2.out (by omega) r4).mono ?_
  rintro e w5 ⟨rfl, hb5⟩
  have hB5 := hB4.trans (hb5.mono hB4.size)
  clear hb5 r4 hB4 hc2 hm2
  go_wp2_with fail
  refine (more_at ca n a xs 0 0 w5 rfl Hx.out (by omega) (by omega) (rx.below hB5 (Nat.le_refl _))).mono ?_
  rintro e w6 ⟨rfl, hb6⟩
  have hB6 := hB5.trans (hb6.mono hB5.size)
  clear hb6 hB5
  go_wp2_with fail
  refine (crc_at ca n a xs w6 Hx.out (by omega) (rx.below hB6 (Nat.le_refl _))).mono ?_
  rintro e w7 ⟨rfl, hb7⟩
  have hB7 := hB6.trans (hb7.mono hB6.size)
  clear hb7 hB6
  go_wp2_with fail
  go_loopw [9, 10] (fun v i wr => ∃ k : Nat, k ≤ n ∧ i = .int .i64 k ∧ wr.ownsRow w.heap.size 5 1 v k (bcs ((xor3 xs ys zs).take k)) ∧ Below w.heap.size w wr) (fun _ i _ => n - (intOf i).toNat)
  case atStart => exact ⟨0, Nat.zero_le _, rfl, World.ownsRow_nil _ _ _ _, hB7⟩
  case round =>
    obtain ⟨k, hk, rfl, hown, hbel⟩ := hrel
    clear hB7
    by_cases hlt : k < n
    · obtain ⟨xb, xo, rfl, hcx⟩ := (rx.below hbel (Nat.le_refl _)).at Hx.out (by omega)
      obtain ⟨yb, yo, rfl, hcy⟩ := (ry.below hbel (Nat.le_refl _)).at Hy.out (by omega)
      obtain ⟨zb, zo, rfl, hcz⟩ := (rz.below hbel (Nat.le_refl _)).at Hz.out (by omega)
      have cx := hcx k hlt
      have cy := hcy k hlt
      have cz := hcz k hlt
      have hsucc := xor3_succ xs ys zs n k Hx.out Hy.out Hz.out hlt
      obtain ⟨x, ex⟩ : ∃ x, xs.getD k 0 = x := ⟨_, rfl⟩
      obtain ⟨y, ey⟩ : ∃ y, ys.getD k 0 = y := ⟨_, rfl⟩
      obtain ⟨z, ez⟩ : ∃ z, zs.getD k 0 = z := ⟨_, rfl⟩
      rw [ex] at cx hsucc
      rw [ey] at cy hsucc
      rw [ez] at cz hsucc
      have Hs : Hid _ := hsucc
      clear hcx hcy hcz ex ey ez hsucc
      obtain ⟨i0, hi, hz0, hz1, hz2⟩ := info_parts info5
      have HX : Hid _ := xor3_byte x y z
      go_wp2_with fail
      go_region_law (refine step_append_own rfl (.tmp 50) (.tmp 65) 25 rfl w.heap.size 5 i0 (.int .u8 0) 1 1 Try.underlying25 hi hz0 hz1 hz2 rfl (by decide) u9 k (bcs ((xor3 xs ys zs).take k)) (by simp [Act.eval]) (by first | exact hown.drew.alloc _ | exact (hown.alloc _).drew) ⟨wr.heap.size, 0, none⟩ 1 1 [.int .u8 (bits .xor .u8 (bits .xor .u8 (x.toNat : Int) (y.toNat : Int)) (z.toNat : Int))] (by simp [Act.eval]) rfl (lit_cell _ _) (one_cell _) (by unfold maxLen; omega) (by omega) (by have := hbel.size; simp; omega) ?_; intro v' w' hown' hgr'; have hst := join_step HX.out Hs.out hbel hown (by first | exact ((Below.refl _ _).drew).alloc (Nat.le_refl _) _ | exact ((Below.refl _ _).alloc (Nat.le_refl _) _).drew) hown' hgr'; clear hown' hgr')
      all_goals clear cx cy cz hi hz0 hz1 hz2 hown hbel
      all_goals go_wp2
      all_goals go_roundw
      all_goals first | exact ⟨k + 1, by omega, by go_num, hst.1, hst.2⟩ | (simp [intOf]; omega)
    · obtain rfl : k = n := by omega
      rw [List.take_of_length_le (by rw [xor3_length xs ys zs k Hx.out Hy.out Hz.out]; exact Nat.le_refl _)] at hown
      obtain ⟨a8, c8, rfl, hl8, hc8, hm8, r8, _⟩ := owns_rd hown
      have Hl8 : Hid _ := hl8
      have Hc : Hid _ := crc_xor3 k xs ys zs Hx.out Hy.out Hz.out
      clear hown hl8 hc8 hm8
      go_wp2_with fail
      refine (crc_at c8 k a8 (xor3 xs ys zs) wr Hl8.out (by omega) r8).mono ?_
      rintro e w8 ⟨rfl, hb8⟩
      have hB8 := hbel.trans (hb8.mono hbel.size)
      clear hb8 hbel r8
      go_wp2_with fail
      refine (crc_at ca k a xs w8 Hx.out (by omega) (rx.below hB8 (Nat.le_refl _))).mono ?_
      rintro e w9 ⟨rfl, hb9⟩
      have hB9 := hB8.trans (hb9.mono hB8.size)
      clear hb9 hB8
      go_wp2_with fail
      refine (crc_at cb k b ys w9 Hy.out (by omega) (ry.below hB9 (Nat.le_refl _))).mono ?_
      rintro e w10 ⟨rfl, hb10⟩
      have hB10 := hB9.trans (hb10.mono hB9.size)
      clear hb10 hB9
      go_wp2_with fail
      refine (crc_at cc k c zs w10 Hz.out (by omega) (rz.below hB10 (Nat.le_refl _))).mono ?_
      rintro e w11 ⟨rfl, hb11⟩
      have hB11 := hB10.trans (hb11.mono hB10.size)
      clear hb11 hB10
      have hfin : ((crc 0 (xor3 xs ys zs) : Nat) : Int) = bits .xor .u32 (bits .xor .u32 ((crc 0 xs : Nat) : Int) ((crc 0 ys : Nat) : Int)) ((crc 0 zs : Nat) : Int) := by
        rw [xor3_sum _ _ _ (crc_lt _ _) (crc_lt _ _) (crc_lt _ _), ← Hc.out]
        rfl
      go_wp2_with fail
      refine (awake_any w11).mono ?_
      rintro e w12 ⟨rfl, hb12⟩
      have hB12 := hB11.trans (hb12.mono hB11.size)
      clear hb12 hB11
      go_wp2
      go_ret
      exact ⟨rfl, hB12⟩

end Go.Proofs.Ytodicpplbfmcgaa
