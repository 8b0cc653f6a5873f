/-
  The document's own numbers in bytes, and its own sum.
-/
import Derived.Test.YtghcmlkgpedkkaaOctets
import Derived.Test.YtghcmlkgpedkkaaSums
namespace Go.Proofs.Ytghcmlkgpedkkaa
open Go.RowKit

theorem refNumber_out (a : Option Addr) (n cap : Nat) (i : Int) (size : Nat) (w : World) (hs : size ≤ 8) (hn : n ≤ 9223372036854775807) (h : i < 0 ∨ (n : Int) - size < i) :
    Calls Try.prog 58 #[.slice a n cap, .int .i64 i, .int .i64 size] w fun e w' => e = .returned (.tuple #[.int .u64 0, .bool false]) ∧ w = w' := by
  by_cases h1 : i < 0
  · go_enter Try.func58, Try.ntmps58
    go_wp2
    go_ret2
    exact ⟨rfl, rfl⟩
  · have h2 : (n : Int) - size < i := by omega
    by_cases h3 : (n : Int) < size
    · go_enter Try.func58, Try.ntmps58
      go_wp2
      go_ret2
      exact ⟨rfl, rfl⟩
    · go_enter Try.func58, Try.ntmps58
      go_wp2
      go_ret2
      exact ⟨rfl, rfl⟩

theorem refNumber_in (b off cap : Nat) (xs : List UInt8) (k size : Nat) (w : World) (hs : size ≤ 8) (hn : xs.length ≤ 9223372036854775807)
    (hc : ∀ j (h : j < xs.length), w.cell? ⟨b, off + j, none⟩ = some (.int .u8 (xs[j].toNat : Int))) (h : k + size ≤ xs.length) :
    Calls Try.prog 58 #[.slice (some ⟨b, off, none⟩) xs.length cap, .int .i64 k, .int .i64 size] w fun e w' => e = .returned (.tuple #[.int .u64 (beNat ((xs.drop k).take size)), .bool true]) ∧ w = w' := by
  go_enter Try.func58, Try.ntmps58
  go_wp2
  go_loop [8, 9] (fun v i => ∃ j : Nat, j ≤ size ∧ i = .int .i64 j ∧ v = .int .u64 (beNat ((xs.drop k).take j))) (fun _ i => size - (intOf i).toNat)
  case atStart => exact ⟨0, Nat.zero_le _, rfl, rfl⟩
  case round =>
    obtain ⟨j, hj, rfl, rfl⟩ := hrel
    by_cases hlt : j < size
    · have hcc := hc (k + j) (by omega)
      have hb7 := beNat_take_lt7 (xs.drop k) j (by omega)
      have hb1 := u8_lt xs[k + j]
      have hst : Hid (beNat ((xs.drop k).take (j + 1)) = beNat ((xs.drop k).take j) * 256 + xs[k + j].toNat) := be_window_succ xs k j (by omega)
      go_wp2
      go_round
      case rel => exact ⟨j + 1, by omega, by go_num, by rw [hst.out]; go_num⟩
      case measure => simp [intOf]; omega
    · obtain rfl : j = size := by omega
      go_wp2
      go_ret2
      exact ⟨rfl, rfl⟩

theorem refNumber_at (cap n : Nat) (a : Option Addr) (xs : List UInt8) (i : Int) (size : Nat) (S : Int) (w : World) (hS : S = (size : Int)) (hl : xs.length = n) (hs0 : 0 < size) (hs : size ≤ 8) (hn : n ≤ 9223372036854775807) (hr : Rd w a xs) :
    Calls Try.prog 58 #[.slice a n cap, .int .i64 i, .int .i64 S] w fun e w' => e = .returned (.tuple #[.int .u64 ((numAt xs i size).getD 0 : Nat), .bool (numAt xs i size).isSome]) ∧ w = w' := by
  subst hl hS
  by_cases h : 0 ≤ i ∧ i + size ≤ xs.length
  · obtain ⟨k, rfl⟩ := Int.eq_ofNat_of_zero_le h.1
    have hk : k + size ≤ xs.length := by omega
    obtain ⟨b, o, rfl, hc⟩ := hr (by omega)
    rw [numAt_some hk]
    exact refNumber_in b o cap xs k size w hs hn hc hk
  · rw [numAt_none h]
    exact refNumber_out a xs.length cap i size w hs hn (by omega)

/-- the lowest j bytes, the lowest first -/
def leB (j v : Nat) : List UInt8 := (toBE j v).reverse
theorem leB_length (j v : Nat) : (leB j v).length = j := by simp [leB, toBE_length]
theorem leB_succ (j v : Nat) : leB (j + 1) v = leB j v ++ [UInt8.ofNat (v / 256 ^ j)] := by simp [leB, toBE_cons]
theorem leB_at (n v k : Nat) (h : k < n) : (leB n v)[n - 1 - k]'(by rw [leB_length]; omega) = (toBE n v)[k]'(by rw [toBE_length]; omega) := by
  simp only [leB, List.getElem_reverse, toBE_length]
  congr 1
  omega

theorem step_byte (q : Nat) : (q : Int) % 256 = ((UInt8.ofNat q).toNat : Int) := by
  rw [ofNat_toNat]; omega
theorem step_div (v j q : Nat) (h : q = v / 256 ^ j) : q / 256 = v / 256 ^ (j + 1) := by
  rw [h, Nat.pow_succ, ← Nat.div_div_eq_div_mul]

theorem take_succ_at (l : List UInt8) (k : Nat) (h : k < l.length) : l.take (k + 1) = l.take k ++ [l[k]] := List.take_succ_eq_append_getElem h

set_option maxRecDepth 100000 in
set_option maxHeartbeats 800000 in
theorem refAdd_at (cap n N : Nat) (a : Option Addr) (xs : List UInt8) (v : Nat) (V S : Int) (w : World) (hV : V = (v : Int)) (hS : S = (N : Int)) (hl : xs.length = n) (hv : v < 18446744073709551616) (hN0 : 0 < N) (hN : N ≤ 8) (hn : n ≤ 140737488355300) (hr : Rd w a xs) (hnil : a = none → cap = 0) :
    Calls Try.prog 57 #[.slice a n cap, .int .u64 V, .int .i64 S] w fun e w' => ∃ v', e = .returned v' ∧ w'.ownsRow w.heap.size 5 1 v' (n + N) (bcs (xs ++ toBE N v)) ∧ Below w.heap.size w w' := by
  subst hV hS
  obtain ⟨i0, hi, hz0, hz1, hz2⟩ := info_parts info5
  have Hl : Hid (xs.length = n) := hl
  clear hl
  go_enter Try.func57, Try.ntmps57
  go_wp2
  go_loopw [1, 7, 8] (fun q l i wr => ∃ j p : Nat, j ≤ N ∧ i = .int .i64 j ∧ q = .int .u64 (p : Int) ∧ p < 18446744073709551616 ∧ Hid (p = v / 256 ^ j) ∧ wr.ownsRow w.heap.size 5 1 l j (bcs (leB j v)) ∧ Below w.heap.size w wr) (fun _ _ i _ => N - (intOf i).toNat)
  case atStart => exact ⟨0, v, Nat.zero_le _, rfl, rfl, hv, by show _ = _; simp, World.ownsRow_nil _ _ _ _, Below.refl _ _⟩
  case round =>
    obtain ⟨j, p, hj, rfl, rfl, hp, hq, ho, hb⟩ := hrel
    by_cases hlt : j < N
    · go_wp2_with (at_builtin; refine wpList_append_own _ rfl _ _ 31 rfl w.heap.size 5 i0 (.int .u8 0) 1 1 Try.underlying31 hi hz0 hz1 hz2 rfl (by decide) _ j (bcs (leB j v)) rfl (ho.alloc _) ⟨wr.heap.size, 0, none⟩ 1 1 [.int .u8 ((p : Int) % 256)] rfl rfl ?c1 ?c2 ?c3 ?c4 ?c5 ?_)
      case c1 =>
        intro i u hi'
        match i, hi' with
        | 0, hi' => simp at hi'; subst hi'; simp [Addr.add]
      case c2 => intro u hu; simp at hu; subst hu; rfl
      case c3 => unfold maxLen; omega
      case c4 => omega
      case c5 => have := hb.size; simp; omega
      · intro v' w1 hown hgrow _
        have hown1 : w1.ownsRow w.heap.size 5 1 v' (j + 1) (bcs (leB (j + 1) v)) := by
          rw [leB_succ, ← append_bcs, ← hq.out, ← step_byte]; exact hown
        have hb1 : Below w.heap.size w w1 := (hb.alloc hb.size _).grown hgrow (by have := hb.size; simp; omega) (fun k hk => (ho.lt k hk).1)
        have hq1 : Hid (p / 256 = v / 256 ^ (j + 1)) := step_div v j p hq.out
        clear hown hgrow ho hb hq
        go_wp2
        go_roundw
        case rel => exact ⟨j + 1, p / 256, by omega, by go_num, by go_num, by omega, hq1, hown1, hb1⟩
        case measure => simp [intOf]; omega
    · obtain rfl : j = N := by omega
      obtain ⟨wA, rfl⟩ : ∃ x, x = wr := ⟨wr, rfl⟩
      have hrB : Rd wA a xs := hr.below hb (Nat.le_refl _)
      obtain ⟨al, cl, hval, hll, hlc, hlm, hrl, hpos⟩ := owns_rd ho
      obtain ⟨g, rfl, hg0, hg1⟩ := hpos hN0
      subst hval
      unfold maxLen at hlm
      obtain ⟨gb, go, heq, hcl⟩ := hrl (by omega)
      simp only [Option.some.injEq, Addr.mk.injEq, and_true] at heq
      obtain ⟨rfl, rfl⟩ := heq
      have HC : Hid (∀ k (hk : k < (leB j v).length), wA.cell? ⟨g, 0 + k, none⟩ = some (.int .u8 ((leB j v)[k].toNat : Int))) := hcl
      have Hll : Hid ((leB j v).length = j) := hll
      clear hq hp hj hlt ho hrl hcl hpos hr hll
      go_wp2_with (at_builtin; refine wpList_append_bytes rfl _ _ rfl wA.heap.size (.slice none 0 0) 0 [] rfl (World.ownsRow_nil _ _ _ _) a n cap xs rfl Hl.out hrB hnil (by omega) (Nat.le_refl _) ?_)
      intro v2 w2 ho2 hg2
      have ho2' : w2.ownsRow wA.heap.size 5 1 v2 n (bcs xs) := by simpa using ho2
      have hb2 : Below wA.heap.size wA w2 := (Below.refl _ _).grown hg2 (Nat.le_refl _) (fun k hk => by simp [Value.ownBlock] at hk)
      clear ho2 hg2 hrB hnil
      go_wp2_with fail
      go_loopw [9, 10] (fun l i wr => ∃ k : Nat, k ≤ j ∧ i = .int .i64 ((j : Int) - 1 - k) ∧ wr.ownsRow wA.heap.size 5 1 l (n + k) (bcs (xs ++ (toBE j v).take k)) ∧ Below wA.heap.size wA wr) (fun _ i _ => (intOf i + 1).toNat)
      case atStart => exact ⟨0, Nat.zero_le _, by go_num, by simpa using ho2', hb2⟩
      case round =>
        obtain ⟨k, hk, rfl, ho, hbq⟩ := hrel
        by_cases hlt : k < j
        · have hcell : wr.cell? ⟨g, j - 1 - k, none⟩ = some (.int .u8 (((toBE j v)[k]'(by rw [toBE_length]; omega)).toNat : Int)) := by
            rw [hbq.cell (p := ⟨g, j - 1 - k, none⟩) hg1, ← leB_at j v k hlt]
            have := HC.out (j - 1 - k) (by rw [Hll.out]; omega)
            rw [Nat.zero_add] at this
            exact this
          have htl : Hid (k < (toBE j v).length) := by show _ < _; rw [toBE_length]; exact hlt
          obtain ⟨c, hc⟩ : ∃ c, c = (toBE j v)[k]'htl.out := ⟨_, rfl⟩
          rw [← hc] at hcell
          have Hc : Hid (c = (toBE j v)[k]'htl.out) := hc
          clear hc
          go_wp2_with (at_builtin; refine wpList_append_own _ rfl _ _ 31 rfl wA.heap.size 5 i0 (.int .u8 0) 1 1 Try.underlying31 hi hz0 hz1 hz2 rfl (by decide) _ (n + k) (bcs (xs ++ (toBE j v).take k)) rfl (ho.alloc _) ⟨wr.heap.size, 0, none⟩ 1 1 [.int .u8 (c.toNat : Int)] rfl rfl ?c1 ?c2 ?c3 ?c4 ?c5 ?_)
          case c1 =>
            intro i u hi'
            match i, hi' with
            | 0, hi' => simp at hi'; subst hi'; simp [Addr.add]
          case c2 => intro u hu; simp at hu; subst hu; rfl
          case c3 => unfold maxLen; omega
          case c4 => omega
          case c5 => have := hbq.size; simp; omega
          · intro v' w1 hown hgrow _
            have hown1 : w1.ownsRow wA.heap.size 5 1 v' (n + (k + 1)) (bcs (xs ++ (toBE j v).take (k + 1))) := by
              rw [take_succ_at _ _ htl.out, ← Hc.out, ← List.append_assoc, ← append_bcs, ← Nat.add_assoc]; exact hown
            have hb1 : Below wA.heap.size wA w1 := (hbq.alloc hbq.size _).grown hgrow (by have := hbq.size; simp; omega) (fun k hk => (ho.lt k hk).1)
            clear hown hgrow ho hbq hcell Hc
            go_wp2
            go_roundw
            case rel => exact ⟨k + 1, by omega, by go_num, hown1, hb1⟩
            case measure => simp [intOf]; omega
        · obtain rfl : k = j := by omega
          rw [List.take_of_length_le (by rw [toBE_length]; exact Nat.le_refl _)] at ho
          have hB : Below w.heap.size w wr := hb.trans (hbq.mono hb.size)
          have ho' : wr.ownsRow w.heap.size 5 1 u9 (n + k) (bcs (xs ++ toBE k v)) := ⟨ho.1, by
            rcases ho.2 with h | ⟨g', cap', cur, h1, h2, h3⟩
            · exact .inl h
            · exact .inr ⟨g', cap', cur, h1, Nat.le_trans hb.size h2, h3⟩⟩
          clear ho hb hbq
          go_wp2
          go_ret
          exact ⟨_, rfl, ho', hB⟩


theorem ref_bit (c : UInt8) (j : Nat) : ((c.toNat : Int) % 4294967296 / 2 ^ j).tmod 2 = ((c.toNat / 2 ^ j % 2 : Nat) : Int) := by
  have e : (c.toNat : Int) % 4294967296 = c.toNat := by have := u8_lt c; omega
  have e2 : ((c.toNat : Int) / 2 ^ j) = ((c.toNat / 2 ^ j : Nat) : Int) := by simp
  rw [e, e2, Int.tmod_eq_emod_of_nonneg (Int.natCast_nonneg _)]
  simp

theorem ref_unlike (X b : Nat) (B : Int) (hB : B = (b : Int)) (hX : X < 4294967296) (h : (B != (X : Int) % 2) = true) : bits .xor .u32 ((X : Int) / 2) 2197175160 = ((step X b : Nat) : Int) := by
  subst hB
  have hne : X % 2 ≠ b := by
    intro e
    simp at h
    omega
  unfold step
  rw [if_neg hne]
  exact xor_u32 (X / 2) taps (by omega) (by decide)

theorem ref_like (X b : Nat) (B : Int) (hB : B = (b : Int)) (h : (B != (X : Int) % 2) = false) : (X : Int) / 2 = ((step X b : Nat) : Int) := by
  subst hB
  have he : X % 2 = b := by
    have := of_not_bne h
    omega
  unfold step
  rw [if_pos he]
  omega

theorem ref_in (b o cap n : Nat) (xs : List UInt8) (s : Nat) (w : World) (hl : xs.length = n) (hn : n ≤ 9223372036854775807) (hs : s < 4294967296)
    (hc : ∀ j, j < n → w.cell? ⟨b, o + j, none⟩ = some (.int .u8 ((xs.getD j 0).toNat : Int))) :
    Calls Try.prog 37 #[.int .u32 s, .slice (some ⟨b, o, none⟩) n cap] w fun e w' => e = .returned (.int .u32 (crc s xs : Nat)) ∧ w = w' := by
  have Hl : Hid (xs.length = n) := hl
  clear hl
  go_enter Try.func37, Try.ntmps37
  go_wp2_with fail
  go_loop [5, 6] (fun r i => ∃ k : Nat, k ≤ n ∧ i = .int .i64 k ∧ r = .int .u32 (reg (4294967295 - s) (xs.take k) : Nat)) (fun _ i => n - (intOf i).toNat)
  case atStart => exact ⟨0, Nat.zero_le _, rfl, by simp [reg_nil]; omega⟩
  case round =>
    obtain ⟨k, hk, rfl, rfl⟩ := hrel
    obtain ⟨R, hR⟩ : ∃ R, reg (4294967295 - s) (xs.take k) = R := ⟨_, rfl⟩
    rw [hR]
    have HR : Hid _ := hR
    clear hR
    have hRl : R < 4294967296 := by rw [← HR.out]; exact reg_lt _ (by omega)
    by_cases hlt : k < n
    · obtain ⟨c, hcc⟩ : ∃ c, xs.getD k 0 = c := ⟨_, rfl⟩
      have hcx : w.cell? ⟨b, o + k, none⟩ = some (.int .u8 (c.toNat : Int)) := by rw [← hcc]; exact hc k hlt
      have Hcc : Hid _ := hcc
      clear hcc hc
      go_wp2_with fail
      go_loop [5, 7] (fun r i => ∃ j : Nat, j ≤ 8 ∧ i = .int .i64 j ∧ r = .int .u32 (steps R c.toNat j : Nat)) (fun _ i => 8 - (intOf i).toNat)
      case atStart => exact ⟨0, Nat.zero_le _, rfl, rfl⟩
      case round =>
        obtain ⟨j, hj, rfl, rfl⟩ := hrel
        by_cases hlt2 : j < 8
        · have hXl := steps_lt c.toNat hRl j
          go_wp2
          · rename_i ht
            rw [ref_unlike _ _ _ (ref_bit c j) hXl ht]
            go_round
            case rel => exact ⟨j + 1, by omega, by go_num, rfl⟩
            case measure => simp [intOf]; omega
          · rename_i ht
            rw [ref_like _ _ _ (ref_bit c j) ht]
            go_round
            case rel => exact ⟨j + 1, by omega, by go_num, rfl⟩
            case measure => simp [intOf]; omega
        · obtain rfl : j = 8 := by omega
          go_wp2
          go_round
          case rel =>
            refine ⟨k + 1, by omega, by go_num, ?_⟩
            have hk' : k < xs.length := by rw [Hl.out]; exact hlt
            have hcc := Hcc.out
            rw [reg_succ _ _ _ hk', HR.out]
            simp only [List.getD, List.getElem?_eq_getElem hk', Option.getD_some] at hcc
            rw [hcc]
          case measure => simp [intOf]; omega
    · obtain rfl : k = n := by omega
      go_wp2
      go_ret
      have hR := HR.out
      rw [List.take_of_length_le (by rw [Hl.out]; exact Nat.le_refl _)] at hR
      refine ⟨?_, rfl⟩
      unfold crc
      rw [hR]
      show Ending.returned (.int .u32 (4294967295 - (R : Int))) = _
      congr 2
      omega

theorem ref_none (a : Option Addr) (cap : Nat) (s : Nat) (w : World) (hs : s < 4294967296) :
    Calls Try.prog 37 #[.int .u32 s, .slice a 0 cap] w fun e w' => e = .returned (.int .u32 (crc s [] : Nat)) ∧ w = w' := by
  go_enter Try.func37, Try.ntmps37
  go_wp2_with fail
  refine wp_loop_rounds 1 ?_
  rw [rounds_succ]
  go_wp2
  go_ret
  refine ⟨?_, rfl⟩
  rw [crc_nil hs]
  show Ending.returned (.int .u32 (4294967295 - (4294967295 - (s : Int)))) = _
  congr 2
  omega

/-- The document's sum. -/
theorem ref_at (cap n : Nat) (a : Option Addr) (xs : List UInt8) (s : Nat) (S : Int) (w : World) (hS : S = (s : Int)) (hl : xs.length = n) (hn : n ≤ 9223372036854775807) (hs : s < 4294967296) (hr : Rd w a xs) :
    Calls Try.prog 37 #[.int .u32 S, .slice a n cap] w fun e w' => e = .returned (.int .u32 (crc s xs : Nat)) ∧ w = w' := by
  subst hS
  by_cases h0 : 0 < n
  · obtain ⟨b, o, rfl, hc⟩ := hr (by omega)
    refine ref_in b o cap n xs s w hl hn hs (fun j hj => ?_)
    rw [hc j (by omega)]
    simp [List.getD, List.getElem?_eq_getElem (show j < xs.length by omega)]
  · obtain rfl : n = 0 := by omega
    obtain rfl : xs = [] := List.eq_nil_of_length_eq_zero hl
    exact ref_none a cap s w hs

end Go.Proofs.Ytghcmlkgpedkkaa
