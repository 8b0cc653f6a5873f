/-
  NamesBack: a path taken apart and put together again, and the other way round.
-/
import Derived.Test.YtcadnhjiodlpcaaDoorSam
namespace Go.Proofs.YtcadnhjiodlpcaaDoor
open Go.RowKit
theorem join_back {xs : List Tx} (h : (joinP (xs.take 100)).2 = 0) : splitP (joinP (xs.take 100)).1 = (xs, 0) ∧ True := by
  have g := good_of_join h
  have hl := g.2.1
  have e : xs.take 100 = xs := by
    apply List.take_of_length_le
    rw [List.length_take] at hl
    omega
  rw [e] at g ⊢
  rw [g.join]
  exact ⟨g.split, trivial⟩
set_option maxRecDepth 100000 in
set_option maxHeartbeats 1000000 in
theorem back_at {w : World} {x : Tx} {a : Option Addr} {xs : List Tx} {c : Nat} (hm : MaxL w) (h : Ts w a xs) (hc : xs.length ≤ c) (hl : xs.length ≤ 9223372036854775807) :
    Calls Tryd.prog 5 #[.string (bs x), .slice a xs.length c] w fun e w' => e = .returned (.bool true) ∧ Below w.heap.size w w' := by
  have HM := hid hm
  have HT := hid h
  have c1 := split_at x w hm
  have hg := fun h => good_of_split (s := x) h
  have he := splitP_err x
  have c3 := fun u (hb : Below w.heap.size w u) => join_at (w := u) (a := a) (xs := xs.take 100) (c := c) ((h.below hb (Nat.le_refl _)).take 100) (by rw [List.length_take]; omega) (by rw [List.length_take]; omega)
  rw [List.length_take] at c3
  have HJ := hid (fun e => join_back (xs := xs) e)
  generalize splitP x = k at *
  generalize joinP (xs.take 100) = jj at *
  obtain ⟨l, n⟩ := k
  obtain ⟨jt, jn2⟩ := jj
  replace c3 : ∀ u, Below w.heap.size w u → Calls Tryd.prog 9 #[.slice a (min 100 xs.length) c] u (RJ u jt jn2) := c3
  replace HJ : Hid (jn2 = 0 → splitP jt = (xs, 0) ∧ True) := HJ
  clear hm h
  have hmn : (min (xs.length : Int) 100).toNat = min 100 xs.length := by omega
  have lx := bs_toList x
  by_cases hn : n = 0
  · subst hn
    obtain ⟨g1, g2⟩ := hg rfl
    replace g1 : Good l := g1
    replace g2 : pathOf l = x := g2
    have hl16 : l.length ≤ 16 := g1.2.1
    have HG := hid g1
    have hjn : joinP l = (x, 0) := by rw [g1.join, g2]
    clear hg he g1 g2
    go_enter Tryd.func5, Tryd.ntmps5
    go_wp2_with fail
    refine c1.mono ?_
    rintro e w1 ⟨a1, d1, rfl, ht, h1, h2, b1⟩
    have B1 := hid b1
    have HL := hid ht
    have c2 := join_is (w := w1) (a := a1) (c := d1) hjn ht h1 (by omega)
    clear ht b1
    go_wp2_with fail
    refine c2.mono ?_
    rintro e w2 ⟨rfl, b2⟩
    have B2 := hid (B1.out.trans (b2.mono B1.out.size))
    have HL2 := hid (HL.out.below b2 (Nat.le_refl _))
    clear b2 B1 HL c2
    go_wp2_with fail
    go_loopw [36, 10] (fun v _ u => ∃ i : Nat, i ≤ l.length ∧ v = .int .i64 (i : Int) ∧ Hid (Ts u a1 l ∧ Below w.heap.size w u)) (fun v _ _ => l.length - (iof v).toNat)
    case atStart => exact ⟨0, by omega, by simp, HL2.out, B2.out⟩
    case round =>
      obtain ⟨i, hi, rfl, hrel⟩ := hrel
      by_cases hlt : i < l.length
      · obtain ⟨p, o, rfl, hp, hcc⟩ := hrel.out.1 (by omega)
        have cc := hcc i hlt
        have hlt' : (i : Int) < (l.length : Int) := by omega
        have wr1 : IntKind.i64.wrap ((i : Int) + 1) = ((i + 1 : Nat) : Int) := by rw [IntKind.wrap_i64]; omega
        have cn := fun u => name_is (HG.out.1 _ (List.getElem_mem hlt)) u
        generalize l[i]'hlt = y at *
        clear hcc
        go_wp2_with fail
        refine (cn _).mono ?_
        rintro e w3 ⟨rfl, b3⟩
        have HF := hid (And.intro (hrel.out.1.below b3 (Nat.le_refl _)) (hrel.out.2.trans (b3.mono hrel.out.2.size)))
        clear hrel b3 cn
        go_wp2_with fail
        go_roundw
        case rel => exact ⟨i + 1, by omega, by simp, HF.out⟩
        case measure => simp only [iof]; omega
      · have hlt' : ¬ (i : Int) < (l.length : Int) := by omega
        have HB := hid hrel.out.2
        clear hrel
        go_wp2_with fail
        refine (c3 _ HB.out).mono ?_
        rintro e u2 ⟨rfl, b2⟩
        have HB2 := hid (HB.out.trans (b2.mono HB.out.size))
        clear b2 HB c3
        by_cases hj : jn2 = 0
        · obtain ⟨e1, e2⟩ := HJ.out hj
          subst hj
          have c4 := split_is (x := jt) (l := xs) (n := 0) e1 u2 (HM.out.below HB2.out)
          have HX := hid e2
          clear e1 e2 HJ
          go_wp2_with fail
          refine c4.mono ?_
          rintro e u3 ⟨a3, d3, rfl, t3, _, _, b3⟩
          have HB3 := hid (HB2.out.trans (b3.mono HB2.out.size))
          have c5 := same_at (w := u3) (a := a3) (b := a) (xs := xs) (ys := xs) (c := d3) (d := c) hl t3 (HT.out.below HB3.out (Nat.le_refl _))
          rw [decide_eq_true rfl] at c5
          clear b3 HB2 t3 c4
          go_wp2_with fail
          refine c5.mono ?_
          rintro e u4 ⟨rfl, b4⟩
          have HB4 := hid (HB3.out.trans (b4.mono HB3.out.size))
          have c6 := awake_at u4 (HM.out.below HB4.out)
          clear b4 HB3 c5
          go_wp2_with fail
          refine c6.mono ?_
          rintro e u5 ⟨rfl, b5⟩
          have HB5 := hid (HB4.out.trans (b5.mono HB4.out.size))
          clear b5 HB4 c6
          go_wp2_with fail
          go_ret
          exact ⟨rfl, HB5.out⟩
        · have hjk : ¬ (jn2 : Int) = 0 := by omega
          have c6 := awake_at u2 (HM.out.below HB2.out)
          clear HJ hj
          go_wp2_with fail
          refine c6.mono ?_
          rintro e u5 ⟨rfl, b5⟩
          have HB5 := hid (HB2.out.trans (b5.mono HB2.out.size))
          clear b5 HB2 c6
          go_wp2_with fail
          go_ret
          exact ⟨rfl, HB5.out⟩
  · have hk : ¬ (n : Int) = 0 := by omega
    clear hg he
    go_enter Tryd.func5, Tryd.ntmps5
    go_wp2_with fail
    refine c1.mono ?_
    rintro e u1 ⟨a1, d1, rfl, ht, h1, h2, b1⟩
    have HB := hid b1
    clear ht b1 h1 h2 hn
    go_wp2_with fail
    refine (c3 _ HB.out).mono ?_
    rintro e u2 ⟨rfl, b2⟩
    have HB2 := hid (HB.out.trans (b2.mono HB.out.size))
    clear b2 HB c3
    by_cases hj : jn2 = 0
    · obtain ⟨e1, e2⟩ := HJ.out hj
      subst hj
      have c4 := split_is (x := jt) (l := xs) (n := 0) e1 u2 (HM.out.below HB2.out)
      have HX := hid e2
      clear e1 e2 HJ
      go_wp2_with fail
      refine c4.mono ?_
      rintro e u3 ⟨a3, d3, rfl, t3, _, _, b3⟩
      have HB3 := hid (HB2.out.trans (b3.mono HB2.out.size))
      have c5 := same_at (w := u3) (a := a3) (b := a) (xs := xs) (ys := xs) (c := d3) (d := c) hl t3 (HT.out.below HB3.out (Nat.le_refl _))
      rw [decide_eq_true rfl] at c5
      clear b3 HB2 t3 c4
      go_wp2_with fail
      refine c5.mono ?_
      rintro e u4 ⟨rfl, b4⟩
      have HB4 := hid (HB3.out.trans (b4.mono HB3.out.size))
      have c6 := awake_at u4 (HM.out.below HB4.out)
      clear b4 HB3 c5
      go_wp2_with fail
      refine c6.mono ?_
      rintro e u5 ⟨rfl, b5⟩
      have HB5 := hid (HB4.out.trans (b5.mono HB4.out.size))
      clear b5 HB4 c6
      go_wp2_with fail
      go_ret
      exact ⟨rfl, HB5.out⟩
    · have hjk : ¬ (jn2 : Int) = 0 := by omega
      have c6 := awake_at u2 (HM.out.below HB2.out)
      clear HJ hj
      go_wp2_with fail
      refine c6.mono ?_
      rintro e u5 ⟨rfl, b5⟩
      have HB5 := hid (HB2.out.trans (b5.mono HB2.out.size))
      clear b5 HB2 c6
      go_wp2_with fail
      go_ret
      exact ⟨rfl, HB5.out⟩
end Go.Proofs.YtcadnhjiodlpcaaDoor
