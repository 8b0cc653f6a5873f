/-
  What the document's answers do on bytes: numbers, numbers put behind, copies with marks behind them.
-/
import Derived.Test.YtpponamckndhpaaBack
import Derived.WalkKit
import Derived.WalkSpells
import Derived.WalkLawsBesides
import Derived.Laws.AppendOwnNone
import Derived.Lib.AppendStr
namespace Go.Proofs.Ytpponamckndhpaa
open Go.RowKit

/-! ### the document's number -/
theorem refNumber_out (a : Option Addr) (n cap : Nat) (i : Int) (size : Nat) (w : World) (hs : size ≤ 8) (hn : n ≤ 9223372036854775807) (h : i < 0 ∨ (n : Int) - size < i) :
    Calls Try.prog 15 #[.slice a n cap, .int .i64 i, .int .i64 size] w fun e w' => e = .returned (.tuple #[.int .u64 0, .bool false]) ∧ w = w' := by
  by_cases h1 : i < 0
  · go_enter Try.func15, Try.ntmps15
    go_wp2
    go_ret2
    exact ⟨rfl, rfl⟩
  · have h2 : (n : Int) - size < i := by omega
    by_cases h3 : (n : Int) < size
    · go_enter Try.func15, Try.ntmps15
      go_wp2
      go_ret2
      exact ⟨rfl, rfl⟩
    · go_enter Try.func15, Try.ntmps15
      go_wp2
      go_ret2
      exact ⟨rfl, rfl⟩

theorem refNumber_in (b off cap : Nat) (xs : List UInt8) (k size : Nat) (w : World) (hs : size ≤ 8) (hn : xs.length ≤ 9223372036854775807)
    (hc : ∀ j (h : j < xs.length), w.cell? ⟨b, off + j, none⟩ = some (.int .u8 (xs[j].toNat : Int))) (h : k + size ≤ xs.length) :
    Calls Try.prog 15 #[.slice (some ⟨b, off, none⟩) xs.length cap, .int .i64 k, .int .i64 size] w fun e w' => e = .returned (.tuple #[.int .u64 (beNat ((xs.drop k).take size)), .bool true]) ∧ w = w' := by
  go_enter Try.func15, Try.ntmps15
  go_wp2
  go_loop [8, 9] (fun v i => ∃ j : Nat, j ≤ size ∧ i = .int .i64 j ∧ v = .int .u64 (beNat ((xs.drop k).take j))) (fun _ i => size - (intOf i).toNat)
  case atStart => exact ⟨0, Nat.zero_le _, rfl, rfl⟩
  case round =>
    obtain ⟨j, hj, rfl, rfl⟩ := hrel
    by_cases hlt : j < size
    · have hcc := hc (k + j) (by omega)
      have hb7 := beNat_take_lt7 (xs.drop k) j (by omega)
      have hb1 := u8_lt xs[k + j]
      have hst : Hid (beNat ((xs.drop k).take (j + 1)) = beNat ((xs.drop k).take j) * 256 + xs[k + j].toNat) := be_window_succ xs k j (by omega)
      go_wp2
      go_round
      case rel => exact ⟨j + 1, by omega, by go_num, by rw [hst.out]; go_num⟩
      case measure => simp [intOf]; omega
    · obtain rfl : j = size := by omega
      go_wp2
      go_ret2
      exact ⟨rfl, rfl⟩

theorem refNumber_at (cap n : Nat) (a : Option Addr) (xs : List UInt8) (i : Int) (size : Nat) (S : Int) (w : World) (hS : S = (size : Int)) (hl : xs.length = n) (hs0 : 0 < size) (hs : size ≤ 8) (hn : n ≤ 9223372036854775807) (hr : Rd w a xs) :
    Calls Try.prog 15 #[.slice a n cap, .int .i64 i, .int .i64 S] w fun e w' => e = .returned (.tuple #[.int .u64 ((numAt xs i size).getD 0 : Nat), .bool (numAt xs i size).isSome]) ∧ w = w' := by
  subst hl hS
  by_cases h : 0 ≤ i ∧ i + size ≤ xs.length
  · obtain ⟨k, rfl⟩ := Int.eq_ofNat_of_zero_le h.1
    have hk : k + size ≤ xs.length := by omega
    obtain ⟨b, o, rfl, hc⟩ := hr (by omega)
    rw [numAt_some hk]
    exact refNumber_in b o cap xs k size w hs hn hc hk
  · rw [numAt_none h]
    exact refNumber_out a xs.length cap i size w hs hn (by omega)

/-! ### rows that grow -/
theorem owns_rd {w : World} {B n : Nat} {v : Value} {ys : List UInt8} (h : w.ownsRow B 5 1 v n (bcs ys)) :
    ∃ a cap, v = .slice a n cap ∧ ys.length = n ∧ n ≤ cap ∧ cap ≤ maxLen ∧ Rd w a ys ∧ (0 < n → ∃ g, a = some ⟨g, 0, none⟩ ∧ B ≤ g ∧ g < w.heap.size) := by
  have hl : ys.length = n := by have := h.1; rw [bcs_length] at this; omega
  rcases h.2 with ⟨rfl, rfl⟩ | ⟨g, cap, cur, rfl, hb, hg, hnc, hcm, hcs, htake⟩
  · have h0 : ys = [] := List.eq_nil_of_length_eq_zero hl
    subst h0
    exact ⟨none, 0, rfl, rfl, Nat.le_refl _, by simp [maxLen], Rd.nil _ _, fun h => by omega⟩
  · refine ⟨some ⟨g, 0, none⟩, cap, rfl, hl, hnc, hcm, fun _ => ⟨g, 0, rfl, fun j hj => ?_⟩, fun _ => ⟨g, rfl, hb, (Array.getElem?_eq_some_iff.1 hg).1⟩⟩
    have := h.cells (g := g) rfl j _ (bcs_getElem? ys j hj)
    rw [Addr.add_lit] at this
    exact this

/-- copy of bytes in memory of their own -/
theorem copyBytes_at (cap n : Nat) (a : Option Addr) (xs : List UInt8) (w : World) (hl : xs.length = n) (hn : n ≤ 140737488355328) (hr : Rd w a xs) (hnil : a = none → cap = 0) :
    Calls Try.prog 28 #[.slice a n cap] w fun e w' => ∃ v, e = .returned v ∧ w'.ownsRow w.heap.size 5 1 v n (bcs xs) ∧ Below w.heap.size w w' := by
  obtain ⟨i0, hi, hz0, hz1, hz2⟩ := info_parts info5
  cases a with
  | none =>
    obtain rfl := hnil rfl
    have h0 : xs.length = 0 := by
      apply Decidable.byContradiction
      intro h
      obtain ⟨_, _, h', _⟩ := hr (by omega)
      simp at h'
    obtain rfl : xs = [] := List.eq_nil_of_length_eq_zero h0
    obtain rfl : n = 0 := hl.symm
    go_enter Try.func28, Try.ntmps28
    go_wp2_with (at_builtin; refine wpList_append_own_none rfl _ _ 25 rfl w.heap.size 5 i0 1 Try.underlying25 hi (.slice none 0 0) 0 [] rfl (World.ownsRow_nil _ _ _ _) rfl ?_)
    go_ret
    exact ⟨_, rfl, World.ownsRow_nil _ _ _ _, Below.refl _ _⟩
  | some ad =>
    have hm : n ≤ maxLen := by unfold maxLen; omega
    go_enter Try.func28, Try.ntmps28
    go_wp2_with (at_builtin; refine wpList_append_own _ rfl _ _ 25 rfl w.heap.size 5 i0 (.int .u8 0) 1 1 Try.underlying25 hi hz0 hz1 hz2 rfl (by decide) (.slice none 0 0) 0 [] rfl (World.ownsRow_nil _ _ _ _) ad n cap (bcs xs) rfl ?c0 ?c1 (bcs_oneCell xs) ?c2 ?c3 (Nat.le_refl _) ?_)
    case c0 => rw [bcs_length]; omega
    case c1 =>
      intro j u hj
      have hj' : j < xs.length := by have := (List.getElem?_eq_some_iff.1 hj).1; simpa [bcs_length] using this
      rw [bcs_getElem? xs j hj'] at hj
      obtain ⟨b, o, he, hc⟩ := hr (by omega)
      obtain rfl := Option.some.inj he
      rw [Addr.add_lit, hc j hj']
      exact hj
    case c2 => omega
    case c3 => omega
    · intro v' w1 hown hgrow _
      have hown1 : w1.ownsRow w.heap.size 5 1 v' n (bcs xs) := by simpa using hown
      have hb : Below w.heap.size w w1 := (Below.refl _ _).grown hgrow (Nat.le_refl _) (fun k hk => by simp [Value.ownBlock] at hk)
      clear hgrow hown
      go_wp2
      go_ret
      exact ⟨_, rfl, hown1, hb⟩

theorem append_bcs (xs : List UInt8) (c : UInt8) : bcs xs ++ [.int .u8 (c.toNat : Int)] = bcs (xs ++ [c]) := by simp [bcs, bc]

/-- a copy with three marks behind its end -/
theorem lent_at (cap n : Nat) (a : Option Addr) (xs : List UInt8) (w : World) (hl : xs.length = n) (hn : n ≤ 140737488355300) (hr : Rd w a xs) (hnil : a = none → cap = 0) :
    Calls Try.prog 14 #[.slice a n cap] w fun e w' => ∃ g cap', e = .returned (.slice (some ⟨g, 0, none⟩) n cap') ∧ n + 3 ≤ cap' ∧ cap' ≤ 9223372036854775807 ∧ w.heap.size ≤ g ∧ Rd w' (some ⟨g, 0, none⟩) (xs ++ [77, 78, 79]) ∧ Below w.heap.size w w' := by
  obtain ⟨i0, hi, hz0, hz1, hz2⟩ := info_parts info5
  go_enter Try.func14, Try.ntmps14
  go_wp2_with (go_at_call 28; refine (copyBytes_at cap n a xs w hl (by omega) hr hnil).mono ?_)
  rintro e w1 ⟨v, rfl, ho, hb⟩
  have Hl : Hid (xs.length = n) := hl
  clear hl hr hnil
  go_wp2_with (at_builtin; refine wpList_append_own _ rfl _ _ 25 rfl w.heap.size 5 i0 (.int .u8 0) 1 1 Try.underlying25 hi hz0 hz1 hz2 rfl (by decide) v n (bcs xs) rfl (ho.alloc _) ⟨w1.heap.size, 0, none⟩ 3 3 [.int .u8 77, .int .u8 78, .int .u8 79] rfl rfl ?c1 ?c2 ?c3 ?c4 ?c5 ?_)
  case c1 =>
    intro j u hj
    match j, hj with
    | 0, hj => simp at hj; subst hj; simp [Addr.add]
    | 1, hj => simp at hj; subst hj; simp [Addr.add]
    | 2, hj => simp at hj; subst hj; simp [Addr.add]
  case c2 => intro u hu; simp at hu; rcases hu with rfl | rfl | rfl <;> rfl
  case c3 => unfold maxLen; omega
  case c4 => omega
  case c5 => have := hb.size; simp; omega
  · intro v' w2 hown hgrow _
    have hown2 : w2.ownsRow w.heap.size 5 1 v' (n + 3) (bcs (xs ++ [77, 78, 79])) := by
      have e : bcs xs ++ [.int .u8 77, .int .u8 78, .int .u8 79] = bcs (xs ++ [77, 78, 79]) := by simp [bcs, bc]
      rw [← e]; exact hown
    have hb2 : Below w.heap.size w w2 := (hb.alloc hb.size _).grown hgrow (by have := hb.size; simp; omega) (fun k hk => (ho.lt k hk).1)
    obtain ⟨a', cap', hv, hl', hnc, hcm, hrd, hpos⟩ := owns_rd hown2
    obtain ⟨g, rfl, hg, _⟩ := hpos (by omega)
    subst hv
    unfold maxLen at hcm
    clear hown hgrow hown2 ho hb
    have Hl' : Hid ((xs ++ [77, 78, 79]).length = n + 3) := hl'
    clear hl'
    go_wp2
    go_ret
    exact ⟨g, cap', rfl, hnc, hcm, hg, hrd, hb2⟩

/-- the lowest j bytes, the lowest first -/
def leB (j v : Nat) : List UInt8 := (toBE j v).reverse
theorem leB_length (j v : Nat) : (leB j v).length = j := by simp [leB, toBE_length]
theorem leB_succ (j v : Nat) : leB (j + 1) v = leB j v ++ [UInt8.ofNat (v / 256 ^ j)] := by simp [leB, toBE_cons]
theorem leB_at (n v k : Nat) (h : k < n) : (leB n v)[n - 1 - k]'(by rw [leB_length]; omega) = (toBE n v)[k]'(by rw [toBE_length]; omega) := by
  simp only [leB, List.getElem_reverse, toBE_length]
  congr 1
  omega

theorem step_byte (q : Nat) : (q : Int) % 256 = ((UInt8.ofNat q).toNat : Int) := by
  rw [ofNat_toNat]; omega
theorem step_div (v j q : Nat) (h : q = v / 256 ^ j) : q / 256 = v / 256 ^ (j + 1) := by
  rw [h, Nat.pow_succ, ← Nat.div_div_eq_div_mul]

/-- bytes from anywhere (none, too) behind a row of one's own -/
theorem wpList_append_bytes {w : World} {ops : Array Oper} {rest : List Oper} {o : Oper} {a : Act} {Q : Exit → Act → World → Prop} (hgd : o.guard = none) (s x : Operand)
    (ho : o.op = .call { callee := .builtin .append, args := #[s, x], argTypes := #[25, 25] })
    (base : Nat) (v : Value) (n : Nat) (xs : List Value) (hs : a.eval s = v) (hown : w.ownsRow base 5 1 v n xs)
    (ao : Option Addr) (m c : Nat) (ys : List UInt8) (hx : a.eval x = .slice ao m c) (hl : ys.length = m) (hr : Rd w ao ys) (hnil : ao = none → c = 0) (hb : n + m ≤ 140737488355328) (hbase : base ≤ w.heap.size)
    (h : ∀ v' w', w'.ownsRow base 5 1 v' (n + m) (xs ++ bcs ys) → w.grownBy w' v.ownBlock → wpList Try.prog ops Q rest (a.put o.dst v') w') : wpList Try.prog ops Q (o :: rest) a w := by
  obtain ⟨i0, hi, hz0, hz1, hz2⟩ := info_parts info5
  cases ao with
  | none =>
    obtain rfl := hnil rfl
    have h0 : ys.length = 0 := by
      apply Decidable.byContradiction
      intro h'
      obtain ⟨_, _, h', _⟩ := hr (by omega)
      simp at h'
    obtain rfl : ys = [] := List.eq_nil_of_length_eq_zero h0
    obtain rfl : m = 0 := hl.symm
    exact wpList_append_own_none hgd s x 25 ho base 5 i0 1 Try.underlying25 hi v n xs hs hown hx (h v w (by simpa [bcs] using hown) (World.grownBy.refl _ _))
  | some ad =>
    refine wpList_append_own w hgd s x 25 ho base 5 i0 (.int .u8 0) 1 1 Try.underlying25 hi hz0 hz1 hz2 rfl (by decide) v n xs hs hown ad m c (bcs ys) hx (by rw [bcs_length]; omega) ?_ (bcs_oneCell ys) (by unfold maxLen; omega) (by omega) hbase (fun v' w' h1 h2 _ => h v' w' h1 h2)
    intro j u hj
    have hj' : j < ys.length := by have := (List.getElem?_eq_some_iff.1 hj).1; simpa [bcs_length] using this
    rw [bcs_getElem? ys j hj'] at hj
    obtain ⟨b, o', he, hc⟩ := hr (by omega)
    obtain rfl := Option.some.inj he
    rw [Addr.add_lit, hc j hj']
    exact hj

theorem take_succ_at (l : List UInt8) (k : Nat) (h : k < l.length) : l.take (k + 1) = l.take k ++ [l[k]] := List.take_succ_eq_append_getElem h

set_option maxHeartbeats 800000 in
theorem refAdd_at (cap n N : Nat) (a : Option Addr) (xs : List UInt8) (v : Nat) (V S : Int) (w : World) (hV : V = (v : Int)) (hS : S = (N : Int)) (hl : xs.length = n) (hv : v < 18446744073709551616) (hN0 : 0 < N) (hN : N ≤ 8) (hn : n ≤ 140737488355300) (hr : Rd w a xs) (hnil : a = none → cap = 0) :
    Calls Try.prog 18 #[.slice a n cap, .int .u64 V, .int .i64 S] w fun e w' => ∃ v', e = .returned v' ∧ w'.ownsRow w.heap.size 5 1 v' (n + N) (bcs (xs ++ toBE N v)) ∧ Below w.heap.size w w' := by
  subst hV hS
  obtain ⟨i0, hi, hz0, hz1, hz2⟩ := info_parts info5
  have Hl : Hid (xs.length = n) := hl
  clear hl
  go_enter Try.func18, Try.ntmps18
  go_wp2
  go_loopw [1, 7, 8] (fun q l i wr => ∃ j p : Nat, j ≤ N ∧ i = .int .i64 j ∧ q = .int .u64 (p : Int) ∧ p < 18446744073709551616 ∧ Hid (p = v / 256 ^ j) ∧ wr.ownsRow w.heap.size 5 1 l j (bcs (leB j v)) ∧ Below w.heap.size w wr) (fun _ _ i _ => N - (intOf i).toNat)
  case atStart => exact ⟨0, v, Nat.zero_le _, rfl, rfl, hv, by show _ = _; simp, World.ownsRow_nil _ _ _ _, Below.refl _ _⟩
  case round =>
    obtain ⟨j, p, hj, rfl, rfl, hp, hq, ho, hb⟩ := hrel
    by_cases hlt : j < N
    · go_wp2_with (at_builtin; refine wpList_append_own _ rfl _ _ 25 rfl w.heap.size 5 i0 (.int .u8 0) 1 1 Try.underlying25 hi hz0 hz1 hz2 rfl (by decide) _ j (bcs (leB j v)) rfl (ho.alloc _) ⟨wr.heap.size, 0, none⟩ 1 1 [.int .u8 ((p : Int) % 256)] rfl rfl ?c1 ?c2 ?c3 ?c4 ?c5 ?_)
      case c1 =>
        intro i u hi'
        match i, hi' with
        | 0, hi' => simp at hi'; subst hi'; simp [Addr.add]
      case c2 => intro u hu; simp at hu; subst hu; rfl
      case c3 => unfold maxLen; omega
      case c4 => omega
      case c5 => have := hb.size; simp; omega
      · intro v' w1 hown hgrow _
        have hown1 : w1.ownsRow w.heap.size 5 1 v' (j + 1) (bcs (leB (j + 1) v)) := by
          rw [leB_succ, ← append_bcs, ← hq.out, ← step_byte]; exact hown
        have hb1 : Below w.heap.size w w1 := (hb.alloc hb.size _).grown hgrow (by have := hb.size; simp; omega) (fun k hk => (ho.lt k hk).1)
        have hq1 : Hid (p / 256 = v / 256 ^ (j + 1)) := step_div v j p hq.out
        clear hown hgrow ho hb hq
        go_wp2
        go_roundw
        case rel => exact ⟨j + 1, p / 256, by omega, by go_num, by go_num, by omega, hq1, hown1, hb1⟩
        case measure => simp [intOf]; omega
    · obtain rfl : j = N := by omega
      obtain ⟨wA, rfl⟩ : ∃ x, x = wr := ⟨wr, rfl⟩
      have hrB : Rd wA a xs := hr.below hb (Nat.le_refl _)
      obtain ⟨al, cl, hval, hll, hlc, hlm, hrl, hpos⟩ := owns_rd ho
      obtain ⟨g, rfl, hg0, hg1⟩ := hpos hN0
      subst hval
      unfold maxLen at hlm
      obtain ⟨gb, go, heq, hcl⟩ := hrl (by omega)
      simp only [Option.some.injEq, Addr.mk.injEq, and_true] at heq
      obtain ⟨rfl, rfl⟩ := heq
      have HC : Hid (∀ k (hk : k < (leB j v).length), wA.cell? ⟨g, 0 + k, none⟩ = some (.int .u8 ((leB j v)[k].toNat : Int))) := hcl
      have Hll : Hid ((leB j v).length = j) := hll
      clear hq hp hj hlt ho hrl hcl hpos hr hll
      go_wp2_with (at_builtin; refine wpList_append_bytes rfl _ _ rfl wA.heap.size (.slice none 0 0) 0 [] rfl (World.ownsRow_nil _ _ _ _) a n cap xs rfl Hl.out hrB hnil (by omega) (Nat.le_refl _) ?_)
      intro v2 w2 ho2 hg2
      have ho2' : w2.ownsRow wA.heap.size 5 1 v2 n (bcs xs) := by simpa using ho2
      have hb2 : Below wA.heap.size wA w2 := (Below.refl _ _).grown hg2 (Nat.le_refl _) (fun k hk => by simp [Value.ownBlock] at hk)
      clear ho2 hg2 hrB hnil
      go_wp2_with fail
      go_loopw [9, 10] (fun l i wr => ∃ k : Nat, k ≤ j ∧ i = .int .i64 ((j : Int) - 1 - k) ∧ wr.ownsRow wA.heap.size 5 1 l (n + k) (bcs (xs ++ (toBE j v).take k)) ∧ Below wA.heap.size wA wr) (fun _ i _ => (intOf i + 1).toNat)
      case atStart => exact ⟨0, Nat.zero_le _, by go_num, by simpa using ho2', hb2⟩
      case round =>
        obtain ⟨k, hk, rfl, ho, hbq⟩ := hrel
        by_cases hlt : k < j
        · have hcell : wr.cell? ⟨g, j - 1 - k, none⟩ = some (.int .u8 (((toBE j v)[k]'(by rw [toBE_length]; omega)).toNat : Int)) := by
            rw [hbq.cell (p := ⟨g, j - 1 - k, none⟩) hg1, ← leB_at j v k hlt]
            have := HC.out (j - 1 - k) (by rw [Hll.out]; omega)
            rw [Nat.zero_add] at this
            exact this
          have htl : Hid (k < (toBE j v).length) := by show _ < _; rw [toBE_length]; exact hlt
          obtain ⟨c, hc⟩ : ∃ c, c = (toBE j v)[k]'htl.out := ⟨_, rfl⟩
          rw [← hc] at hcell
          have Hc : Hid (c = (toBE j v)[k]'htl.out) := hc
          clear hc
          go_wp2_with (at_builtin; refine wpList_append_own _ rfl _ _ 25 rfl wA.heap.size 5 i0 (.int .u8 0) 1 1 Try.underlying25 hi hz0 hz1 hz2 rfl (by decide) _ (n + k) (bcs (xs ++ (toBE j v).take k)) rfl (ho.alloc _) ⟨wr.heap.size, 0, none⟩ 1 1 [.int .u8 (c.toNat : Int)] rfl rfl ?c1 ?c2 ?c3 ?c4 ?c5 ?_)
          case c1 =>
            intro i u hi'
            match i, hi' with
            | 0, hi' => simp at hi'; subst hi'; simp [Addr.add]
          case c2 => intro u hu; simp at hu; subst hu; rfl
          case c3 => unfold maxLen; omega
          case c4 => omega
          case c5 => have := hbq.size; simp; omega
          · intro v' w1 hown hgrow _
            have hown1 : w1.ownsRow wA.heap.size 5 1 v' (n + (k + 1)) (bcs (xs ++ (toBE j v).take (k + 1))) := by
              rw [take_succ_at _ _ htl.out, ← Hc.out, ← List.append_assoc, ← append_bcs, ← Nat.add_assoc]; exact hown
            have hb1 : Below wA.heap.size wA w1 := (hbq.alloc hbq.size _).grown hgrow (by have := hbq.size; simp; omega) (fun k hk => (ho.lt k hk).1)
            clear hown hgrow ho hbq hcell Hc
            go_wp2
            go_roundw
            case rel => exact ⟨k + 1, by omega, by go_num, hown1, hb1⟩
            case measure => simp [intOf]; omega
        · obtain rfl : k = j := by omega
          rw [List.take_of_length_le (by rw [toBE_length]; exact Nat.le_refl _)] at ho
          have hB : Below w.heap.size w wr := hb.trans (hbq.mono hb.size)
          have ho' : wr.ownsRow w.heap.size 5 1 u9 (n + k) (bcs (xs ++ toBE k v)) := ⟨ho.1, by
            rcases ho.2 with h | ⟨g', cap', cur, h1, h2, h3⟩
            · exact .inl h
            · exact .inr ⟨g', cap', cur, h1, Nat.le_trans hb.size h2, h3⟩⟩
          clear ho hb hbq
          go_wp2
          go_ret
          exact ⟨_, rfl, ho', hB⟩
end Go.Proofs.Ytpponamckndhpaa
