/-
  NamesUp: going up from any path ends at the root.
-/
import Derived.Test.YtcadnhjiodlpcaaDoorAwk
namespace Go.Proofs.YtcadnhjiodlpcaaDoor
open Go.RowKit
/-! ### plainly -/
theorem Good.pre {l : List Tx} (h : Good l) (i j : Nat) : withinP (pathOf (l.take i)) (pathOf (l.take j)) = (l.take j).isPrefixOf (l.take i) := (h.take i).within (h.take j)
theorem pre_le (l : List Tx) (i j : Nat) (h : j ≤ i) : (l.take j).isPrefixOf (l.take i) = true := by
  rw [List.isPrefixOf_iff_prefix]
  have : l.take j = (l.take i).take j := by rw [List.take_take, Nat.min_eq_left h]
  rw [this]
  exact List.take_prefix _ _
theorem pre_gt (l : List Tx) (i : Nat) (h : i < l.length) : (l.take (i + 1)).isPrefixOf (l.take i) = false := by
  apply Bool.eq_false_iff.2
  intro e
  have := List.IsPrefix.length_le (List.isPrefixOf_iff_prefix.1 e)
  rw [List.length_take, List.length_take] at this
  omega
theorem Good.upTake {l : List Tx} (h : Good l) (i : Nat) (hi : i < l.length) : upP (pathOf (l.take (i + 1))) = (pathOf (l.take i), l[i], 0) := by
  have h0 : l.take (i + 1) ≠ [] := fun e => by
    have := congrArg List.length e
    rw [List.length_take, List.length_nil] at this
    omega
  rw [(h.take (i + 1)).up h0]
  have e1 : (l.take (i + 1)).dropLast = l.take i := by
    rw [List.dropLast_eq_take, List.length_take, List.take_take]
    congr 1
    omega
  have e2 : (l.take (i + 1)).getLastD [] = l[i] := by
    rw [List.take_succ_eq_append_getElem hi, List.getLastD_concat]
  rw [e1, e2]
theorem within_bad (x y : Tx) (h : (splitP x).2 ≠ 0) : withinP x y = false := by simp [withinP, h]
theorem within_bad' (x y : Tx) (h : (splitP y).2 ≠ 0) : withinP x y = false := by simp [withinP, h]
set_option maxRecDepth 100000 in
set_option maxHeartbeats 1000000 in
theorem ups_at {w : World} {x : Tx} (hm : MaxL w) : Calls Tryd.prog 6 #[.string (bs x)] w fun e w' => e = .returned (.bool true) ∧ Below w.heap.size w w' := by
  have HM := hid hm
  have c1 := split_at x w hm
  have hg := fun h => good_of_split (s := x) h
  have he := splitP_err x
  by_cases hn : (splitP x).2 = 0
  · obtain ⟨g1, g2⟩ := hg hn
    rw [hn] at c1
    generalize (splitP x).1 = l at *
    have HG := hid g1
    have HX := hid g2
    have hl16 : l.length ≤ 16 := g1.2.1
    clear hg he hn g1 g2 hm
    go_enter Tryd.func6, Tryd.ntmps6
    go_wp2_with fail
    refine c1.mono ?_
    rintro e w1 ⟨a1, d1, rfl, ht, h1, h2, b1⟩
    have B1 := hid b1
    have HL := hid ht
    clear ht b1
    go_wp2_with fail
    go_loopw [5, 6] (fun v n u => ∃ i : Nat, i ≤ l.length ∧ v = .string (bs (pathOf (l.take i))) ∧ n = .int .i64 (i : Int) ∧ Hid (Below w.heap.size w u ∧ Below w1.heap.size w1 u)) (fun _ n _ => (iof n).toNat)
    case atStart => exact ⟨l.length, Nat.le_refl _, by rw [List.take_length, HX.out], by simp, B1.out, Below.refl _ _⟩
    case round =>
      obtain ⟨i, hi, rfl, rfl, hrel⟩ := hrel
      by_cases hlt : 0 < i
      · obtain ⟨j, rfl⟩ : ∃ j, i = j + 1 := ⟨i - 1, by omega⟩
        have hj : j < l.length := by omega
        have hlt' : (0 : Int) < ((j + 1 : Nat) : Int) := by omega
        have wr1 : IntKind.i64.wrap (((j + 1 : Nat) : Int) - 1) = (j : Int) := by rw [IntKind.wrap_i64]; omega
        obtain ⟨p, o, rfl, hp, hcc⟩ := HL.out (by omega)
        have cc := (hrel.out.2.cell (p := ⟨p, o + j, none⟩) hp).trans (hcc j hj)
        have hpl : p < _ := Nat.lt_of_lt_of_le hp hrel.out.2.size
        have k1 := fun u hu => up_is (HG.out.upTake j hj) u hu
        have e2 : withinP x (pathOf (l.take (j + 1))) = true := by
          have := HG.out.pre l.length (j + 1)
          rw [List.take_length, HX.out] at this
          rw [this]
          have := pre_le l l.length (j + 1) hj
          rwa [List.take_length] at this
        have k2 := fun u hu => within_is e2 u hu
        have k3 := fun u hu => within_is ((HG.out.pre (j + 1) j).trans (pre_le l (j + 1) j (by omega))) u hu
        have k4 := fun u hu => within_is ((HG.out.pre j (j + 1)).trans (pre_gt l j hj)) u hu
        have HP : Hid (∃ z, z = pathOf (l.take j)) := ⟨_, rfl⟩
        have HQ : Hid (∀ z, z = pathOf (l.take j) → Value.string (bs z) = Value.string (bs (pathOf (l.take j)))) := fun z h => by rw [h]
        generalize pathOf (l.take (j + 1)) = p1 at *
        generalize hp0 : pathOf (l.take j) = p0 at *
        have HP0 := hid hp0
        clear hp0 HP HQ
        generalize l[j]'hj = y at *
        have ly := bs_toList y
        clear hcc hp e2
        go_wp2_with fail
        refine (k1 _ (HM.out.below hrel.out.1)).mono ?_
        rintro e w2 ⟨rfl, b2⟩
        have cc2 := (b2.cell (p := ⟨p, o + j, none⟩) hpl).trans cc
        have B2 := hid (And.intro (hrel.out.1.trans (b2.mono hrel.out.1.size)) (hrel.out.2.trans (b2.mono hrel.out.2.size)))
        have k2 := k2 w2 (HM.out.below B2.out.1)
        clear b2 hrel cc k1 hpl
        go_wp2_with fail
        refine k2.mono ?_
        rintro e w3 ⟨rfl, b3⟩
        have B3 := hid (And.intro (B2.out.1.trans (b3.mono B2.out.1.size)) (B2.out.2.trans (b3.mono B2.out.2.size)))
        have k3 := k3 w3 (HM.out.below B3.out.1)
        clear b3 B2 cc2 k2
        go_wp2_with fail
        refine k3.mono ?_
        rintro e w4 ⟨rfl, b4⟩
        have B4 := hid (And.intro (B3.out.1.trans (b4.mono B3.out.1.size)) (B3.out.2.trans (b4.mono B3.out.2.size)))
        have k4 := k4 w4 (HM.out.below B4.out.1)
        clear b4 B3 k3
        go_wp2_with fail
        refine k4.mono ?_
        rintro e w5 ⟨rfl, b5⟩
        have B5 := hid (And.intro (B4.out.1.trans (b5.mono B4.out.1.size)) (B4.out.2.trans (b5.mono B4.out.2.size)))
        clear b5 B4 k4
        go_wp2_with fail
        go_roundw
        case rel => exact ⟨j, by omega, by rw [HP0.out], by simp, B5.out⟩
        case measure => simp only [iof]; omega
      · obtain rfl : i = 0 := by omega
        have k1 := fun u hu => up_is (x := [47]) (s := []) (t := []) (n := 211) (by decide) u hu
        have e2 : withinP x [47] = true := by
          have := HG.out.pre l.length 0
          rw [List.take_length, HX.out] at this
          exact this
        have k2 := fun u hu => within_is e2 u hu
        have lz := bs_toList [47]
        have ez : pathOf (l.take 0) = [47] := rfl
        rw [ez]
        clear e2 ez
        go_wp2_with fail
        refine (k1 _ (HM.out.below hrel.out.1)).mono ?_
        rintro e w2 ⟨rfl, b2⟩
        have B2 := hid (hrel.out.1.trans (b2.mono hrel.out.1.size))
        have k2 := k2 w2 (HM.out.below B2.out)
        clear b2 hrel k1
        go_wp2_with fail
        refine k2.mono ?_
        rintro e w3 ⟨rfl, b3⟩
        have B3 := hid (B2.out.trans (b3.mono B2.out.size))
        have k4 := awake_at w3 (HM.out.below B3.out)
        clear b3 B2 k2
        go_wp2_with fail
        refine k4.mono ?_
        rintro e w4 ⟨rfl, b4⟩
        have B4 := hid (B3.out.trans (b4.mono B3.out.size))
        clear b4 B3 k4
        go_wp2_with fail
        go_ret
        exact ⟨rfl, B4.out⟩
  · have e0 : (splitP x).1 = [] := by rcases he with h | h; exact absurd h hn; exact h.1
    rw [e0] at c1
    have c2 := fun u hu => within_is (x := x) (y := [47]) (within_bad x [47] hn) u hu
    have c3 := fun u hu => within_is (x := [47]) (y := x) (within_bad' [47] x hn) u hu
    have hk : ¬ ((splitP x).2 : Int) = 0 := by omega
    generalize (splitP x).2 = n at *
    clear hg he hn e0 hm
    go_enter Tryd.func6, Tryd.ntmps6
    go_wp2_with fail
    refine c1.mono ?_
    rintro e w1 ⟨a1, d1, rfl, ht, h1, h2, b1⟩
    have B1 := hid b1
    have c2 := c2 w1 (HM.out.below b1)
    clear ht b1
    go_wp2_with fail
    refine c2.mono ?_
    rintro e w2 ⟨rfl, b2⟩
    have B2 := hid (B1.out.trans (b2.mono B1.out.size))
    have c3 := c3 w2 (HM.out.below B2.out)
    clear b2 B1 c2
    go_wp2_with fail
    refine c3.mono ?_
    rintro e w3 ⟨rfl, b3⟩
    have B3 := hid (B2.out.trans (b3.mono B2.out.size))
    have c4 := awake_at w3 (HM.out.below B3.out)
    clear b3 B2 c3
    go_wp2_with fail
    refine c4.mono ?_
    rintro e w4 ⟨rfl, b4⟩
    have B4 := hid (B3.out.trans (b4.mono B3.out.size))
    clear b4 B3 c4
    go_wp2_with fail
    go_ret
    exact ⟨rfl, B4.out⟩
end Go.Proofs.YtcadnhjiodlpcaaDoor
