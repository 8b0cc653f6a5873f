/-
  GetNode: what a block of extents says.
-/
import Derived.Test.YtmhplpiglbamcaaReads
namespace Go.Proofs.Ytmhplpiglbamcaa
open Go.RowKit

theorem readE_nat (xs : List UInt8) (p k : Nat) : ∀ e ∈ readE xs p k, natE e := by
  intro e he
  obtain ⟨j, _, rfl⟩ := List.mem_map.1 he
  have h1 := num_lt xs ((p + 6 * j : Nat) : Int) 2
  have h2 := num_lt xs ((p + 6 * j + 2 : Nat) : Int) 2
  have h3 := num_lt xs ((p + 6 * j + 4 : Nat) : Int) 2
  simp only [natE]
  omega
theorem natE_wf {es : List Ext} (h : ∀ e ∈ es, natE e) : ∀ e ∈ es, wfE e := by
  intro e he
  have := h e he
  simp only [natE, wfE] at this ⊢
  omega

def erG (b : Bool) : Int := if b then 0 else 30
def GetsN (w w' : World) (o : Option (List Ext)) (r : Ending) : Prop := ∃ v, r = .returned (.tuple #[v, .int .i64 (erG o.isSome)]) ∧ w'.ownsRow w.heap.size 46 3 v (o.getD []).length (ecs (o.getD [])) ∧ Below w.heap.size w w'

def listN (xs : List UInt8) : List Ext := readE xs 8 (num xs 0 2)
def getNode (xs : List UInt8) : Option (List Ext) :=
  if decide (xs.length = 4096) && (decide (num xs 0 2 ≤ 250) && (decide (num xs 2 2 = 0) && (rightFrom 0 (listN xs) && (isThen (xs.drop 8) (extsB (listN xs)) && decide (num xs 4 4 = crc 0 (xs.drop 8)))))) then some (listN xs) else none

set_option maxRecDepth 100000 in
theorem getNode_off (n cap : Nat) (a : Option Addr) (xs : List UInt8) (w : World) (hn : xs.length = n) (hm : n ≤ 9223372036854775807) (hr : Rd w a xs) (h : ¬ (n = 4096 ∧ num xs 0 2 ≤ 250 ∧ num xs 2 2 = 0)) :
    Calls Try.prog 16 #[.slice a n cap] w fun r w' => GetsN w w' (getNode xs) r := by
  have e : getNode xs = none := by
    unfold getNode
    rw [hn]
    by_cases h1 : n = 4096
    · by_cases h2 : num xs 0 2 ≤ 250
      · have h3 : ¬ num xs 2 2 = 0 := fun h3 => h ⟨h1, h2, h3⟩
        rw [decide_eq_false h3]; simp
      · rw [decide_eq_false h2]; simp
    · rw [decide_eq_false h1]; simp
  rw [e]
  have k0 := num_lt xs 0 2
  have k1 := num_lt xs 2 2
  have Hn : Hid _ := hn
  clear hn e
  obtain ⟨C, c0⟩ : ∃ C, C = num xs 0 2 := ⟨_, rfl⟩
  obtain ⟨Z, c1⟩ : ∃ Z, Z = num xs 2 2 := ⟨_, rfl⟩
  rw [← c0, ← c1] at h
  rw [← c0] at k0
  rw [← c1] at k1
  have HC : Hid _ := c0
  have HZ : Hid _ := c1
  clear c0 c1
  by_cases h1 : n = 4096
  · have h4 : ((n : Int) != 4096) = false := by simp; omega
    by_cases h2 : C ≤ 250
    · have h3 : ((Z : Int) != 0) = true := by simp; omega
      have h5 : ¬ (250 < (C : Int)) := by omega
      clear h h1 h2
      go_enter Try.func16, Try.ntmps16
      go_wp2_with fail
      refine (u16_o cap n a xs _ w Hn.out hm hr).mono ?_
      rintro r w' ⟨ok0, rfl, rfl⟩
      go_wp2_with fail
      refine (u16_o cap n a xs _ w Hn.out hm hr).mono ?_
      rintro r w' ⟨ok1, rfl, rfl⟩
      rw [← HC.out, ← HZ.out]
      go_wp2
      go_ret2
      exact ⟨_, rfl, World.ownsRow_nil _ _ _ _, Below.refl _ _⟩
    · have h5 : 250 < (C : Int) := by omega
      clear h h1 h2
      go_enter Try.func16, Try.ntmps16
      go_wp2_with fail
      refine (u16_o cap n a xs _ w Hn.out hm hr).mono ?_
      rintro r w' ⟨ok0, rfl, rfl⟩
      go_wp2_with fail
      refine (u16_o cap n a xs _ w Hn.out hm hr).mono ?_
      rintro r w' ⟨ok1, rfl, rfl⟩
      rw [← HC.out, ← HZ.out]
      go_wp2
      go_ret2
      exact ⟨_, rfl, World.ownsRow_nil _ _ _ _, Below.refl _ _⟩
  · have h4 : ((n : Int) != 4096) = true := by simp; omega
    clear h h1
    go_enter Try.func16, Try.ntmps16
    go_wp2_with fail
    refine (u16_o cap n a xs _ w Hn.out hm hr).mono ?_
    rintro r w' ⟨ok0, rfl, rfl⟩
    go_wp2_with fail
    refine (u16_o cap n a xs _ w Hn.out hm hr).mono ?_
    rintro r w' ⟨ok1, rfl, rfl⟩
    rw [← HC.out, ← HZ.out]
    go_wp2
    go_ret2
    exact ⟨_, rfl, World.ownsRow_nil _ _ _ _, Below.refl _ _⟩

set_option maxRecDepth 100000 in
set_option maxHeartbeats 1000000 in
theorem getNode_in (b o cap : Nat) (xs : List UInt8) (w : World) (hn : xs.length = 4096) (hcap : 4096 ≤ cap) (hm : cap ≤ 9223372036854775807) (hr : Rd w (some ⟨b, o, none⟩) xs) (h2 : num xs 0 2 ≤ 250) (h3 : num xs 2 2 = 0) :
    Calls Try.prog 16 #[.slice (some ⟨b, o, none⟩) 4096 cap] w fun r w' => GetsN w w' (getNode xs) r := by
  have hdl : Hid ((xs.drop 8).length = 4088) := by show _ = _; simp; omega
  unfold getNode
  rw [decide_eq_true hn, decide_eq_true h2, decide_eq_true h3]
  have c1 := h3
  have k2 := num_lt xs 4 4
  obtain ⟨C, hC⟩ : ∃ C, C = num xs 0 2 := ⟨_, rfl⟩
  obtain ⟨S, hS⟩ : ∃ S, S = num xs 4 4 := ⟨_, rfl⟩
  obtain ⟨X, hX0⟩ : ∃ X, X = crc 0 (xs.drop 8) := ⟨_, rfl⟩
  obtain ⟨L, hL0⟩ : ∃ L, L = listN xs := ⟨_, rfl⟩
  have hX : Hid (crc 0 (xs.drop 8) = X) := hX0.symm
  have hL : Hid (L = readE xs 8 C) := by rw [hC]; exact hL0
  have hLn : ∀ e ∈ L, natE e := by rw [hL.out]; exact readE_nat xs 8 C
  have xl := crc_lt 0 (xs.drop 8)
  rw [← hL0, ← hS, ← hX0]
  rw [← hX0] at xl
  rw [← hS] at k2
  rw [← hC] at h2
  have c0 : Hid _ := hC
  have c2 : Hid _ := hS
  have Hn : Hid _ := hn
  clear hn hL0 hC hS hX0 h3
  have cz : ¬ (250 < (C : Int)) := by omega
  cases hR : rightFrom 0 L
  · go_enter Try.func16, Try.ntmps16
    go_wp2_with fail
    refine (u16_o cap 4096 (some ⟨b, o, none⟩) xs _ w Hn.out (by omega) hr).mono ?_
    rintro r w' ⟨ok0, rfl, rfl⟩
    go_wp2_with fail
    refine (u16_o cap 4096 (some ⟨b, o, none⟩) xs _ w Hn.out (by omega) hr).mono ?_
    rintro r w' ⟨ok1, rfl, rfl⟩
    rw [← c0.out, c1]
    go_wp2_with fail
    refine (readExtents_at 4096 cap 8 C (some ⟨b, o, none⟩) xs w Hn.out (by omega) (by omega) (by omega) hr).mono ?_
    rintro r w1 ⟨v1, rfl, o1, b1⟩
    have hr1 := hr.below b1 (Nat.le_refl _)
    have hd1 := hr1.drop 8
    rw [← hL.out] at o1
    obtain ⟨a1, cap1, rfl, l1, hc1, hx1, r1, n1, _⟩ := ownsE_parts o1
    have L1 : Hid _ := l1
    clear l1
    go_wp2_with fail
    refine (u32_o cap 4096 (some ⟨b, o, none⟩) xs _ w1 Hn.out (by omega) hr1).mono ?_
    rintro r w' ⟨ok2, rfl, rfl⟩
    rw [← c2.out]
    go_wp2_with fail
    refine (right_at cap1 C a1 L w1 L1.out (by omega) (natE_wf hLn) r1).mono ?_
    rintro r w2 ⟨rfl, b2⟩
    rw [hR]
    have B2 := b1.trans (b2.mono b1.size)
    have o2 := owns_below o1 b2
    have r2 := r1.below b2 (Nat.le_refl _)
    have d2 := hd1.below b2 (Nat.le_refl _)
    clear o1 r1 hd1 hr1 b1 b2
    go_wp2
    go_ret2
    exact ⟨_, rfl, World.ownsRow_nil _ _ _ _, B2⟩
  · cases hT : isThen (xs.drop 8) (extsB L)
    · go_enter Try.func16, Try.ntmps16
      go_wp2_with fail
      refine (u16_o cap 4096 (some ⟨b, o, none⟩) xs _ w Hn.out (by omega) hr).mono ?_
      rintro r w' ⟨ok0, rfl, rfl⟩
      go_wp2_with fail
      refine (u16_o cap 4096 (some ⟨b, o, none⟩) xs _ w Hn.out (by omega) hr).mono ?_
      rintro r w' ⟨ok1, rfl, rfl⟩
      rw [← c0.out, c1]
      go_wp2_with fail
      refine (readExtents_at 4096 cap 8 C (some ⟨b, o, none⟩) xs w Hn.out (by omega) (by omega) (by omega) hr).mono ?_
      rintro r w1 ⟨v1, rfl, o1, b1⟩
      have hr1 := hr.below b1 (Nat.le_refl _)
      have hd1 := hr1.drop 8
      rw [← hL.out] at o1
      obtain ⟨a1, cap1, rfl, l1, hc1, hx1, r1, n1, _⟩ := ownsE_parts o1
      have L1 : Hid _ := l1
      clear l1
      go_wp2_with fail
      refine (u32_o cap 4096 (some ⟨b, o, none⟩) xs _ w1 Hn.out (by omega) hr1).mono ?_
      rintro r w' ⟨ok2, rfl, rfl⟩
      rw [← c2.out]
      go_wp2_with fail
      refine (right_at cap1 C a1 L w1 L1.out (by omega) (natE_wf hLn) r1).mono ?_
      rintro r w2 ⟨rfl, b2⟩
      rw [hR]
      have B2 := b1.trans (b2.mono b1.size)
      have o2 := owns_below o1 b2
      have r2 := r1.below b2 (Nat.le_refl _)
      have d2 := hd1.below b2 (Nat.le_refl _)
      clear o1 r1 hd1 hr1 b1 b2
      go_wp2_with fail
      refine (extentBytes_at cap1 C a1 L w2 L1.out (by omega) hLn r2).mono ?_
      rintro r w3 ⟨v3, rfl, o3, b3⟩
      have B3 := B2.trans (b3.mono B2.size)
      have p2 := owns_below o2 b3
      have d3 := d2.below b3 (Nat.le_refl _)
      obtain ⟨a3, cap3, rfl, l3, hc3, hx3, r3, n3, _⟩ := owns_parts o3
      have L3 : Hid _ := l3
      clear l3 o3 o2 r2 d2 B2 b3
      go_wp2_with fail
      refine (isThen_at (cap - 8) cap3 4088 (C * 6) (some ⟨b, o + 8, none⟩) a3 (xs.drop 8) (extsB L) w3 hdl.out L3.out (by omega) (by omega) (by omega) (by simp) d3 r3).mono ?_
      rintro r w' ⟨rfl, rfl⟩
      rw [hT]
      clear r3 n3
      go_wp2
      go_ret2
      exact ⟨_, rfl, World.ownsRow_nil _ _ _ _, B3⟩
    · by_cases hq : S = X
      · rw [decide_eq_true hq]
        go_enter Try.func16, Try.ntmps16
        go_wp2_with fail
        refine (u16_o cap 4096 (some ⟨b, o, none⟩) xs _ w Hn.out (by omega) hr).mono ?_
        rintro r w' ⟨ok0, rfl, rfl⟩
        go_wp2_with fail
        refine (u16_o cap 4096 (some ⟨b, o, none⟩) xs _ w Hn.out (by omega) hr).mono ?_
        rintro r w' ⟨ok1, rfl, rfl⟩
        rw [← c0.out, c1]
        go_wp2_with fail
        refine (readExtents_at 4096 cap 8 C (some ⟨b, o, none⟩) xs w Hn.out (by omega) (by omega) (by omega) hr).mono ?_
        rintro r w1 ⟨v1, rfl, o1, b1⟩
        have hr1 := hr.below b1 (Nat.le_refl _)
        have hd1 := hr1.drop 8
        rw [← hL.out] at o1
        obtain ⟨a1, cap1, rfl, l1, hc1, hx1, r1, n1, _⟩ := ownsE_parts o1
        have L1 : Hid _ := l1
        clear l1
        go_wp2_with fail
        refine (u32_o cap 4096 (some ⟨b, o, none⟩) xs _ w1 Hn.out (by omega) hr1).mono ?_
        rintro r w' ⟨ok2, rfl, rfl⟩
        rw [← c2.out]
        go_wp2_with fail
        refine (right_at cap1 C a1 L w1 L1.out (by omega) (natE_wf hLn) r1).mono ?_
        rintro r w2 ⟨rfl, b2⟩
        rw [hR]
        have B2 := b1.trans (b2.mono b1.size)
        have o2 := owns_below o1 b2
        have r2 := r1.below b2 (Nat.le_refl _)
        have d2 := hd1.below b2 (Nat.le_refl _)
        clear o1 r1 hd1 hr1 b1 b2
        go_wp2_with fail
        refine (extentBytes_at cap1 C a1 L w2 L1.out (by omega) hLn r2).mono ?_
        rintro r w3 ⟨v3, rfl, o3, b3⟩
        have B3 := B2.trans (b3.mono B2.size)
        have p2 := owns_below o2 b3
        have d3 := d2.below b3 (Nat.le_refl _)
        obtain ⟨a3, cap3, rfl, l3, hc3, hx3, r3, n3, _⟩ := owns_parts o3
        have L3 : Hid _ := l3
        clear l3 o3 o2 r2 d2 B2 b3
        go_wp2_with fail
        refine (isThen_at (cap - 8) cap3 4088 (C * 6) (some ⟨b, o + 8, none⟩) a3 (xs.drop 8) (extsB L) w3 hdl.out L3.out (by omega) (by omega) (by omega) (by simp) d3 r3).mono ?_
        rintro r w' ⟨rfl, rfl⟩
        rw [hT]
        clear r3 n3
        have hqq : ((S : Int) != (X : Int)) = false := by simp; omega
        go_wp2_with fail
        refine (crc_at (cap - 8) 4088 (some ⟨b, o + 8, none⟩) (xs.drop 8) w3 hdl.out (by omega) d3).mono ?_
        rintro r w4 ⟨rfl, b4⟩
        have B4 := B3.trans (b4.mono B3.size)
        have p4 := owns_below p2 b4
        rw [hX.out]
        clear p2 d3 B3 b4
        go_wp2
        go_ret2
        refine ⟨_, rfl, ?_, B4⟩
        show World.ownsRow _ _ _ _ _ L.length (ecs L)
        rw [L1.out]
        exact p4
      · rw [decide_eq_false hq]
        go_enter Try.func16, Try.ntmps16
        go_wp2_with fail
        refine (u16_o cap 4096 (some ⟨b, o, none⟩) xs _ w Hn.out (by omega) hr).mono ?_
        rintro r w' ⟨ok0, rfl, rfl⟩
        go_wp2_with fail
        refine (u16_o cap 4096 (some ⟨b, o, none⟩) xs _ w Hn.out (by omega) hr).mono ?_
        rintro r w' ⟨ok1, rfl, rfl⟩
        rw [← c0.out, c1]
        go_wp2_with fail
        refine (readExtents_at 4096 cap 8 C (some ⟨b, o, none⟩) xs w Hn.out (by omega) (by omega) (by omega) hr).mono ?_
        rintro r w1 ⟨v1, rfl, o1, b1⟩
        have hr1 := hr.below b1 (Nat.le_refl _)
        have hd1 := hr1.drop 8
        rw [← hL.out] at o1
        obtain ⟨a1, cap1, rfl, l1, hc1, hx1, r1, n1, _⟩ := ownsE_parts o1
        have L1 : Hid _ := l1
        clear l1
        go_wp2_with fail
        refine (u32_o cap 4096 (some ⟨b, o, none⟩) xs _ w1 Hn.out (by omega) hr1).mono ?_
        rintro r w' ⟨ok2, rfl, rfl⟩
        rw [← c2.out]
        go_wp2_with fail
        refine (right_at cap1 C a1 L w1 L1.out (by omega) (natE_wf hLn) r1).mono ?_
        rintro r w2 ⟨rfl, b2⟩
        rw [hR]
        have B2 := b1.trans (b2.mono b1.size)
        have o2 := owns_below o1 b2
        have r2 := r1.below b2 (Nat.le_refl _)
        have d2 := hd1.below b2 (Nat.le_refl _)
        clear o1 r1 hd1 hr1 b1 b2
        go_wp2_with fail
        refine (extentBytes_at cap1 C a1 L w2 L1.out (by omega) hLn r2).mono ?_
        rintro r w3 ⟨v3, rfl, o3, b3⟩
        have B3 := B2.trans (b3.mono B2.size)
        have p2 := owns_below o2 b3
        have d3 := d2.below b3 (Nat.le_refl _)
        obtain ⟨a3, cap3, rfl, l3, hc3, hx3, r3, n3, _⟩ := owns_parts o3
        have L3 : Hid _ := l3
        clear l3 o3 o2 r2 d2 B2 b3
        go_wp2_with fail
        refine (isThen_at (cap - 8) cap3 4088 (C * 6) (some ⟨b, o + 8, none⟩) a3 (xs.drop 8) (extsB L) w3 hdl.out L3.out (by omega) (by omega) (by omega) (by simp) d3 r3).mono ?_
        rintro r w' ⟨rfl, rfl⟩
        rw [hT]
        clear r3 n3
        have hqq : ((S : Int) != (X : Int)) = true := by simp; omega
        go_wp2_with fail
        refine (crc_at (cap - 8) 4088 (some ⟨b, o + 8, none⟩) (xs.drop 8) w3 hdl.out (by omega) d3).mono ?_
        rintro r w4 ⟨rfl, b4⟩
        have B4 := B3.trans (b4.mono B3.size)
        have p4 := owns_below p2 b4
        rw [hX.out]
        clear p2 d3 B3 b4
        go_wp2
        go_ret2
        exact ⟨_, rfl, World.ownsRow_nil _ _ _ _, B4⟩

/-- GetNode -/
theorem getNode_at (n cap : Nat) (a : Option Addr) (xs : List UInt8) (w : World) (hn : xs.length = n) (hcap : n ≤ cap) (hm : cap ≤ 9223372036854775807) (hr : Rd w a xs) :
    Calls Try.prog 16 #[.slice a n cap] w fun r w' => GetsN w w' (getNode xs) r := by
  by_cases h : n = 4096 ∧ num xs 0 2 ≤ 250 ∧ num xs 2 2 = 0
  · obtain ⟨rfl, h2, h3⟩ := h
    obtain ⟨b, o, rfl, _⟩ := hr (by omega)
    exact getNode_in b o cap xs w hn hcap hm hr h2 h3
  · exact getNode_off n cap a xs w hn (by omega) hr h
end Go.Proofs.Ytmhplpiglbamcaa
