/-
  LentBytes, with its row; OverBytes.
-/
import Derived.Test.YtagnmmapnpcijaaRefLoad
namespace Go.Proofs.Ytagnmmapnpcijaa
open Go.RowKit

theorem lent_row (cap n : Nat) (a : Option Addr) (xs : List UInt8) (w : World) (hl : xs.length = n) (hn : n ≤ 140737488355300) (hr : Rd w a xs) (hnil : a = none → cap = 0) :
    Calls Try.prog 47 #[.slice a n cap] w fun e w' => ∃ g cap', e = .returned (.slice (some ⟨g, 0, none⟩) n cap') ∧ n + 3 ≤ cap' ∧ cap' ≤ 9223372036854775807 ∧ w.heap.size ≤ g ∧ RowB w' g cap' (xs ++ [77, 78, 79]) ∧ Below w.heap.size w w' := by
  obtain ⟨i0, hi, hz0, hz1, hz2⟩ := info_parts info5
  go_enter Try.func47, Try.ntmps47
  go_wp2_with (go_at_call 32; refine (copyBytes_at cap n a xs w hl (by omega) hr hnil).mono ?_)
  rintro e w1 ⟨v, rfl, ho, hb⟩
  have Hl : Hid (xs.length = n) := hl
  clear hl hr hnil
  go_wp2_with (at_builtin; refine wpList_append_own _ rfl _ _ 27 rfl w.heap.size 5 i0 (.int .u8 0) 1 1 Try.underlying27 hi hz0 hz1 hz2 rfl (by decide) v n (bcs xs) rfl (ho.alloc _) ⟨w1.heap.size, 0, none⟩ 3 3 [.int .u8 77, .int .u8 78, .int .u8 79] rfl rfl ?c1 ?c2 ?c3 ?c4 ?c5 ?_)
  case c1 =>
    intro j u hj
    match j, hj with
    | 0, hj => simp at hj; subst hj; simp [Addr.add]
    | 1, hj => simp at hj; subst hj; simp [Addr.add]
    | 2, hj => simp at hj; subst hj; simp [Addr.add]
  case c2 => intro u hu; simp at hu; rcases hu with rfl | rfl | rfl <;> rfl
  case c3 => unfold maxLen; omega
  case c4 => omega
  case c5 => have := hb.size; simp; omega
  · intro v' w2 hown hgrow _
    have hown2 : w2.ownsRow w.heap.size 5 1 v' (n + 3) (bcs (xs ++ [77, 78, 79])) := by
      have e : bcs xs ++ [.int .u8 77, .int .u8 78, .int .u8 79] = bcs (xs ++ [77, 78, 79]) := by simp [bcs, bc]
      rw [← e]; exact hown
    have hb2 : Below w.heap.size w w2 := (hb.alloc hb.size _).grown hgrow (by have := hb.size; simp; omega) (fun k hk => (ho.lt k hk).1)
    obtain ⟨g, cap', rfl, hg, hrow⟩ := RowB.owns hown2 (by omega)
    have hnc : n + 3 ≤ cap' ∧ cap' ≤ 9223372036854775807 := by
      obtain ⟨_, _, q1, q2, _⟩ := hrow
      have : (xs ++ [77, 78, 79]).length = n + 3 := by simp [Hl.out]
      unfold maxLen at q2
      omega
    obtain ⟨hnc, hcm⟩ := hnc
    have Hrow : Hid (RowB w2 g cap' (xs ++ [77, 78, 79])) := hrow
    clear hown hgrow hown2 ho hb hrow
    go_wp2
    go_ret
    exact ⟨g, cap', rfl, hnc, hcm, hg, Hrow.out, hb2⟩

theorem mark60 (k i : Nat) (w : World) (hk : k ≤ 1000) (hi : i ≤ 1000000) :
    Calls Try.prog 60 #[.int .i64 k, .int .i64 i] w fun e w' => (∃ z, e = .returned (.int .u8 z)) ∧ w' = w := by
  go_enter Try.func60, Try.ntmps60
  go_wp2
  go_ret
  exact ⟨⟨_, rfl⟩, rfl⟩
set_option maxRecDepth 100000 in
theorem over_at (g n cap : Nat) (cur : Array Value) (w : World) (hb : Box w g cur 5) (hs : cur.size = cap) (hn : n + 3 ≤ cap) (hn2 : n ≤ 100000) (_hcap : cap ≤ 9223372036854775807) :
    Calls Try.prog 50 #[.slice (some ⟨g, 0, none⟩) n cap] w fun e w' => e = .returned (.tuple #[]) ∧ w.grownBy w' (some g) := by
  go_enter Try.func50, Try.ntmps50
  go_wp2_with fail
  go_loopw [3] (fun i wr => ∃ q : Nat, q ≤ n + 3 ∧ i = .int .i64 q ∧ (∃ cur : Array Value, Box wr g cur 5 ∧ cur.size = cap) ∧ w.grownBy wr (some g)) (fun i _ => n + 3 - (intOf i).toNat)
  case atStart => exact ⟨0, by omega, rfl, ⟨cur, hb, hs⟩, World.grownBy.refl _ _⟩
  case round =>
    clear hb hs
    obtain ⟨q, hq, rfl, ⟨cur, hb, hs⟩, gr⟩ := hrel
    by_cases hlt : q < n + 3
    · have hlt2 : (q : Int) < (n : Int) + 3 := by omega
      have cM := mark60 9 q wr (by omega) (by omega)
      rw [show ((9 : Nat) : Int) = 9 from rfl] at cM
      have c0 : wr.cell? ⟨g, q, none⟩ = some (cur[q]'(by omega)) := by rw [hb.cell, Array.getElem?_eq_getElem]
      have f0 := hb.frozen q
      generalize (cur[q]'(by omega)) = v0 at c0
      go_wp2_with fail
      refine cM.mono ?_
      rintro e w3 ⟨⟨z, rfl⟩, rfl⟩
      have hb2 := hb.store q (.int .u8 z)
      have gr2 := grown_trans gr (grown_store w3 g q (.int .u8 z))
      have hs2 : (cur.setIfInBounds q (.int .u8 z)).size = cap := by rw [Array.size_setIfInBounds]; exact hs
      clear cM hb gr
      go_wp2_with fail
      go_roundw
      case rel => exact ⟨q + 1, by omega, by go_num, ⟨_, hb2, hs2⟩, gr2⟩
      case measure => simp [intOf]; omega
    · have hqn : q = n + 3 := by omega
      subst hqn
      go_wp2_with fail
      go_end0
      exact ⟨rfl, gr⟩
end Go.Proofs.Ytagnmmapnpcijaa
