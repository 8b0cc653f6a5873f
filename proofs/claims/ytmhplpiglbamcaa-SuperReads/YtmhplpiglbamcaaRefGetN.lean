/-
  The document's own GetNode; what the Gets are in the Puts' words.
-/
import Derived.Test.YtmhplpiglbamcaaRefInode
import Derived.Test.YtmhplpiglbamcaaRefGetS
namespace Go.Proofs.Ytmhplpiglbamcaa
open Go.RowKit

theorem putNode_parts {es : List Ext} {xs : List UInt8} (h : putNode es = some xs) : es.length ≤ 250 ∧ rightFrom 0 es = true ∧ nodeB es = xs := by
  unfold putNode at h
  obtain ⟨h1, h2⟩ := if_some h
  simp only [Bool.and_eq_true, decide_eq_true_eq] at h1
  exact ⟨h1.1, h1.2, h2⟩
theorem getNode_yes {xs : List UInt8} (h : putNode (listN xs) = some xs) : getNode xs = some (listN xs) := by
  obtain ⟨h1, h2, h3⟩ := putNode_parts h
  have := getNode_put (listN xs) h1 h2
  rwa [h3] at this
theorem getNode_no {xs : List UInt8} (h : putNode (listN xs) ≠ some xs) : getNode xs = none := by
  cases hq : getNode xs with
  | none => rfl
  | some es =>
    exfalso
    obtain ⟨⟨h1, h2⟩, h3⟩ := getNode_some hq
    obtain ⟨_, hx⟩ := if_some hq
    subst hx
    apply h
    unfold putNode
    rw [h2, decide_eq_true h1, h3]
    rfl
theorem getNode_len {xs : List UInt8} (h : ¬ (xs.length = 4096 ∧ num xs 0 2 ≤ 250)) : getNode xs = none := by
  cases hq : getNode xs with
  | none => rfl
  | some es =>
    exfalso
    obtain ⟨hc, _⟩ := if_some hq
    simp only [Bool.and_eq_true, decide_eq_true_eq] at hc
    exact h ⟨hc.1, hc.2.1⟩

theorem refGetNode_off (n cap : Nat) (a : Option Addr) (xs : List UInt8) (w : World) (hn : xs.length = n) (hm : n ≤ 9223372036854775807) (hr : Rd w a xs) (h : ¬ (n = 4096 ∧ num xs 0 2 ≤ 250)) :
    Calls Try.prog 31 #[.slice a n cap] w fun r w' => GetsN w w' none r := by
  by_cases h0 : n = 4096
  · have h1 : 250 < num xs 0 2 := by
      apply Decidable.byContradiction
      intro h2
      exact h ⟨h0, by omega⟩
    have c := refnumber_at cap n a xs 0 2 2 w rfl hn (by omega) (by omega) hm hr
    rw [num2_i64] at c
    clear h hn
    generalize num xs 0 2 = K at c h1
    have h2 : (250 : Int) < (K : Int) := by omega
    have h4 : ((n : Int) != 4096) = false := by simp; omega
    clear h0
    go_enter Try.func31, Try.ntmps31
    go_wp2_with fail
    refine c.mono ?_
    rintro r w' ⟨rfl, rfl⟩
    go_wp2
    go_ret2
    exact ⟨_, rfl, World.ownsRow_nil _ _ _ _, Below.refl _ _⟩
  · have h4 : ((n : Int) != 4096) = true := by simp; omega
    clear h hn
    go_enter Try.func31, Try.ntmps31
    go_wp2
    go_ret2
    exact ⟨_, rfl, World.ownsRow_nil _ _ _ _, Below.refl _ _⟩

set_option maxRecDepth 100000 in
set_option maxHeartbeats 1000000 in
theorem refGetNode_in (cap : Nat) (a : Option Addr) (xs : List UInt8) (w : World) (hn : xs.length = 4096) (hr : Rd w a xs) (h : num xs 0 2 ≤ 250) :
    Calls Try.prog 31 #[.slice a 4096 cap] w fun r w' => GetsN w w' (getNode xs) r := by
  have c := refnumber_at cap 4096 a xs 0 2 2 w rfl hn (by omega) (by omega) (by omega) hr
  rw [num2_i64] at c
  have hL : Hid (listN xs = readE xs 8 (num xs 0 2)) := rfl
  have hyes : Hid (putNode (listN xs) = some xs → getNode xs = some (listN xs)) := getNode_yes
  have hno : Hid (putNode (listN xs) ≠ some xs → getNode xs = none) := getNode_no
  have Hn : Hid _ := hn
  have hlen := readE_length xs 8 (num xs 0 2)
  have hnat := readE_nat xs 8 (num xs 0 2)
  obtain ⟨L, hLd⟩ : ∃ L, L = listN xs := ⟨_, rfl⟩
  rw [← hLd] at hyes hno hL
  generalize num xs 0 2 = K at c h hL hlen hnat
  rw [← hL.out] at hlen hnat
  have Hlen : Hid _ := hlen
  clear hn hlen hLd
  have h2 : ¬ (250 : Int) < (K : Int) := by omega
  go_enter Try.func31, Try.ntmps31
  go_wp2_with fail
  refine c.mono ?_
  rintro r w' ⟨rfl, rfl⟩
  go_wp2_with fail
  refine c.mono ?_
  rintro r w' ⟨rfl, rfl⟩
  clear c
  go_wp2_with fail
  refine (refread_at 4096 cap 8 K a xs w Hn.out (by omega) (by omega) (by omega) hr).mono ?_
  rintro r w1 ⟨v1, rfl, o1, b1⟩
  rw [← hL.out] at o1
  obtain ⟨a1, c1, rfl, _, _, _, r1, _, _⟩ := ownsE_parts o1
  go_wp2_with fail
  refine (refPutNode_at c1 K a1 L w1 Hlen.out (by omega) (natE_wf hnat) r1).mono ?_
  rintro r w2 h2'
  cases hp : putNode L with
  | none =>
    obtain ⟨v2, rfl, o2, b2⟩ := puts_none h2' hp
    have B2 := b1.trans (b2.mono b1.size)
    have e : Hid (getNode xs = none) := hno.out (by rw [hp]; simp)
    obtain ⟨a2, c2, rfl, _⟩ := owns_parts o2
    clear o1 o2 b1 b2 h2' hp
    go_wp2
    go_ret2
    rw [e.out]
    exact ⟨_, rfl, World.ownsRow_nil _ _ _ _, B2⟩
  | some S =>
    have hS : S.length = 4096 := by
      obtain ⟨p1, _, p3⟩ := putNode_parts hp
      rw [← p3]; exact nodeB_length L p1
    obtain ⟨g2, c2, rfl, o2, _, _, _, _, b2⟩ := puts_block h2' hp hS (by omega)
    have B2 := b1.trans (b2.mono b1.size)
    have r2 := owns_rd_at o2
    have o1' := owns_below o1 b2
    have e1 : Hid (S = xs → getNode xs = some L) := fun h => hyes.out (by rw [hp, h])
    have e2 : Hid (S ≠ xs → getNode xs = none) := fun h => hno.out (by rw [hp]; intro h'; exact h (Option.some.inj h'))
    have HS : Hid _ := hS
    clear o1 o2 b1 b2 h2' hp hS
    go_wp2_with fail
    refine (same_at _ _ 4096 4096 _ a S xs w2 HS.out Hn.out r2 (hr.below B2 (Nat.le_refl _))).mono ?_
    rintro r w' ⟨rfl, rfl⟩
    cases hq : (S == xs) with
    | true =>
      have e : Hid (getNode xs = some L) := e1.out (by simpa using hq)
      go_wp2
      go_ret2
      rw [e.out]
      refine ⟨_, rfl, ?_, B2⟩
      show World.ownsRow _ _ _ _ _ L.length (ecs L)
      rw [Hlen.out]
      exact o1'
    | false =>
      have e : Hid (getNode xs = none) := e2.out (by simpa using hq)
      go_wp2
      go_ret2
      rw [e.out]
      exact ⟨_, rfl, World.ownsRow_nil _ _ _ _, B2⟩

/-- the document's GetNode is super's -/
theorem refGetNode_at (n cap : Nat) (a : Option Addr) (xs : List UInt8) (w : World) (hn : xs.length = n) (hm : n ≤ 9223372036854775807) (hr : Rd w a xs) :
    Calls Try.prog 31 #[.slice a n cap] w fun r w' => GetsN w w' (getNode xs) r := by
  by_cases h : n = 4096 ∧ num xs 0 2 ≤ 250
  · obtain ⟨rfl, h⟩ := h
    exact refGetNode_in cap a xs w hn hr h
  · rw [getNode_len (by rw [hn]; exact h)]
    exact refGetNode_off n cap a xs w hn hm hr h
end Go.Proofs.Ytmhplpiglbamcaa
