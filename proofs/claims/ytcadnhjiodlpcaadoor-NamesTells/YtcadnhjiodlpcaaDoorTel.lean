/-
  NamesTells: each call tells what the document's own tells.
-/
import Derived.Test.YtcadnhjiodlpcaaDoorRup
namespace Go.Proofs.YtcadnhjiodlpcaaDoor
open Go.RowKit
set_option maxRecDepth 100000 in
set_option maxHeartbeats 4000000 in
theorem tells_at {w : World} {x y : Tx} {a : Option Addr} {xs : List Tx} {c : Nat} (hm : MaxL w) (h : Ts w a xs) (hl : xs.length ≤ 9223372036854775807) (hx : x.length ≤ 9223372036854775807) (hxs : ∀ z ∈ xs, z.length ≤ 9223372036854775807) :
    Calls Tryd.prog 4 #[.string (bs x), .string (bs y), .slice a xs.length c] w fun e w' => e = .returned (.bool true) ∧ Below w.heap.size w w' := by
  have HM := hid hm
  have HT := hid h
  by_cases h100 : 100 < xs.length
  · have hk : (100 : Int) < (xs.length : Int) := by omega
    have c1 := awake_at w hm
    clear h
    go_enter Tryd.func4, Tryd.ntmps4
    go_wp2_with fail
    refine c1.mono ?_
    rintro e w1 ⟨rfl, b1⟩
    have B1 := hid b1
    clear b1
    go_wp2_with fail
    go_ret
    exact ⟨rfl, B1.out⟩
  have hk : ¬ (100 : Int) < (xs.length : Int) := by omega
  have c1 := copy_at (c := c) (by omega) h
  have c2 := fun u hu => split_at x u hu
  have c3 := fun u => rsplit_at x u
  have c4 := fun u a c (h : Ts u a xs) hc => join_at (w := u) (a := a) (xs := xs) (c := c) h hc hl
  have c5 := fun u (h : Ts u a xs) => rjoin_at (w := u) (a := a) (xs := xs) (c := c) h hl hxs
  have c6 := fun u hu => up_at x u hu
  have c7 := fun u => rup_at x u
  have c8 := fun u => name_at x u
  have c9 := fun u => rname_at x u hx
  have c10 := fun u hu => within_at x y u hu
  have c11 := fun u => rwithin_at x y u
  generalize splitP x = q1 at *
  generalize joinP xs = q2 at *
  generalize upP x = q3 at *
  generalize isName x = q4 at *
  generalize withinP x y = q5 at *
  obtain ⟨l1, n1⟩ := q1
  obtain ⟨t2, n2⟩ := q2
  obtain ⟨s3, t3, n3⟩ := q3
  clear h hm hxs hx
  have e1 := bs_toList t2
  have e2 := bs_toList s3
  have e3 := bs_toList t3
  go_enter Tryd.func4, Tryd.ntmps4
  go_wp2_with fail
  refine c1.mono ?_
  rintro e w1 ⟨a1, d1, rfl, t1, hd1, _, b1⟩
  have B1 := hid b1
  have T1 := hid t1
  clear b1 c1 t1
  go_wp2_with fail
  refine (c2 _ (HM.out.below B1.out)).mono ?_
  rintro e w2 ⟨a2, d2, rfl, t2', h2, h2', b2⟩
  have B2 := hid (B1.out.trans (b2.mono B1.out.size))
  have T1 := hid (T1.out.below b2 (Nat.le_refl _))
  have T2 := hid t2'
  clear b2 c2 t2' B1
  go_wp2_with fail
  refine (c3 _).mono ?_
  rintro e w3 ⟨a3, d3, rfl, t3', h3, b3⟩
  have B3 := hid (B2.out.trans (b3.mono B2.out.size))
  have T1 := hid (T1.out.below b3 (Nat.le_refl _))
  have T2 := hid (T2.out.below b3 (Nat.le_refl _))
  have T3 := hid t3'
  clear b3 c3 t3' B2
  go_wp2_with fail
  refine (c4 _ _ _ T1.out hd1).mono ?_
  rintro e w4 ⟨rfl, b4⟩
  have B4 := hid (B3.out.trans (b4.mono B3.out.size))
  have T1 := hid (T1.out.below b4 (Nat.le_refl _))
  have T2 := hid (T2.out.below b4 (Nat.le_refl _))
  have T3 := hid (T3.out.below b4 (Nat.le_refl _))
  clear b4 c4 B3
  go_wp2_with fail
  refine (c5 _ (HT.out.below B4.out (Nat.le_refl _))).mono ?_
  rintro e w5 ⟨rfl, rfl⟩
  clear c5
  go_wp2_with fail
  refine (c6 _ (HM.out.below B4.out)).mono ?_
  rintro e w6 ⟨rfl, b6⟩
  have B6 := hid (B4.out.trans (b6.mono B4.out.size))
  have T1 := hid (T1.out.below b6 (Nat.le_refl _))
  have T2 := hid (T2.out.below b6 (Nat.le_refl _))
  have T3 := hid (T3.out.below b6 (Nat.le_refl _))
  clear b6 c6 B4
  go_wp2_with fail
  refine (c7 _).mono ?_
  rintro e w7 ⟨rfl, b7⟩
  have B7 := hid (B6.out.trans (b7.mono B6.out.size))
  have T1 := hid (T1.out.below b7 (Nat.le_refl _))
  have T2 := hid (T2.out.below b7 (Nat.le_refl _))
  have T3 := hid (T3.out.below b7 (Nat.le_refl _))
  clear b7 c7 B6
  have s1 := same_at (c := d2) (d := d3) (show l1.length ≤ 9223372036854775807 by omega) T2.out T3.out
  rw [decide_eq_true rfl] at s1
  go_wp2_with fail
  refine s1.mono ?_
  rintro e w8 ⟨rfl, b8⟩
  have B8 := hid (B7.out.trans (b8.mono B7.out.size))
  have T1 := hid (T1.out.below b8 (Nat.le_refl _))
  clear b8 s1 B7 T2 T3
  go_wp2_with fail
  refine (c8 _).mono ?_
  rintro e w9 ⟨rfl, b9⟩
  have B9 := hid (B8.out.trans (b9.mono B8.out.size))
  have T1 := hid (T1.out.below b9 (Nat.le_refl _))
  clear b9 c8 B8
  go_wp2_with fail
  refine (c9 _).mono ?_
  rintro e w10 ⟨rfl, rfl⟩
  clear c9
  go_wp2_with fail
  refine (c10 _ (HM.out.below B9.out)).mono ?_
  rintro e w11 ⟨rfl, b11⟩
  have B11 := hid (B9.out.trans (b11.mono B9.out.size))
  have T1 := hid (T1.out.below b11 (Nat.le_refl _))
  clear b11 c10 B9
  go_wp2_with fail
  refine (c11 _).mono ?_
  rintro e w12 ⟨rfl, b12⟩
  have B12 := hid (B11.out.trans (b12.mono B11.out.size))
  have T1 := hid (T1.out.below b12 (Nat.le_refl _))
  clear b12 c11 B11
  have s2 := same_at (c := d1) (d := c) hl T1.out (HT.out.below B12.out (Nat.le_refl _))
  rw [decide_eq_true rfl] at s2
  go_wp2_with fail
  refine s2.mono ?_
  rintro e w13 ⟨rfl, b13⟩
  have B13 := hid (B12.out.trans (b13.mono B12.out.size))
  have c12 := awake_at w13 (HM.out.below B13.out)
  clear b13 s2 B12 T1
  go_wp2_with fail
  refine c12.mono ?_
  rintro e w14 ⟨rfl, b14⟩
  have B14 := hid (B13.out.trans (b14.mono B13.out.size))
  clear b14 c12 B13
  go_wp2_with fail
  go_ret
  exact ⟨rfl, B14.out⟩
end Go.Proofs.YtcadnhjiodlpcaaDoor
