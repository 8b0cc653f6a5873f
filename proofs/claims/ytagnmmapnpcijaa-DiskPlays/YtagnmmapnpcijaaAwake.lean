/-
  awake: the chapter's first example.
-/
import Derived.Test.YtagnmmapnpcijaaLow
import Derived.Test.YtagnmmapnpcijaaInts
namespace Go.Proofs.Ytagnmmapnpcijaa
open Go.RowKit

/-- a disk of two blocks of noughts, with these writes -/
def two (Z : List UInt8) (uf : List (Nat × List UInt8)) (n : Nat) : DS := ⟨2, Z, uf, n, false, ⟨false, 0⟩, ⟨false, 0⟩⟩
theorem two_quiet (Z : List UInt8) (uf : List (Nat × List UInt8)) (n : Nat) : (two Z uf n).quiet := ⟨rfl, rfl, rfl⟩
theorem two_write (Z : List UInt8) (uf : List (Nat × List UInt8)) (n b : Nat) (B : Int) (x : List UInt8) (hB : B = (b : Int)) (hb : b < 2) (hx : x.length = 4096) : (two Z uf n).write B x = two Z (uf ++ [(b, x)]) (n + 1) := by
  subst hB
  rw [(two_quiet Z uf n).write b x hb hx]
  rfl
theorem two_writeE (Z : List UInt8) (uf : List (Nat × List UInt8)) (n b : Nat) (B : Int) (x : List UInt8) (hB : B = (b : Int)) (hb : b < 2) (hx : x.length = 4096) : (two Z uf n).writeE B x = 0 := by
  subst hB
  exact (two_quiet Z uf n).writeE b x hb hx

theorem IsDisk.apart {w : World} {g g' : Nat} {D D' : DS} {F F' : Nat → Prop} (_h : IsDisk w g D F) (_h' : IsDisk w g' D' F') (hd : ∀ i, F i → ¬ F' i) : ∀ i, F' i → ¬ F i := fun i h1 h2 => hd i h2 h1

theorem stand_empty (D : DS) (h : D.uf = []) (n : Nat) : D.stand n = blk D.dur n := by
  unfold DS.stand
  rw [h]
  rfl

theorem awake_d (Z : List UInt8) (hZ : Z = nought (2 * 4096)) (fA fB : List UInt8) (hA : fA = fill 65) (hB : fB = fill 66) :
    ((two Z [(0, fA), (0, fB), (1, fA)] 3).crash [true] (-1) 0).stand 0 = fA ∧ ((two Z [(0, fA), (0, fB), (1, fA)] 3).crash [true] (-1) 0).stand 1 = fill 0 ∧ ((two Z [(0, fA), (0, fB), (1, fA)] 3).copy.crash [] 1 3).stand 0 = mixK 0 66 3 4096 := by
  have lZ : Z.length = 8192 := by rw [hZ, nought_length]
  have lA : fA.length = 4096 := by rw [hA, fill_length]
  have e1 : ((two Z [(0, fA), (0, fB), (1, fA)] 3).crash [true] (-1) 0).dur = carry Z 0 fA 255 := rfl
  have e2 : ((two Z [(0, fA), (0, fB), (1, fA)] 3).copy.crash [] 1 3).dur = carry Z 0 fB 3 := rfl
  have z0 : blk Z 0 = fill 0 := by rw [hZ]; exact blk_nought _ _ (by omega)
  have z1 : blk Z 1 = fill 0 := by rw [hZ]; exact blk_nought _ _ (by omega)
  refine ⟨?_, ?_, ?_⟩
  · rw [stand_empty _ rfl, e1, blk_carry_all Z 0 fA (by omega) lA]
  · rw [stand_empty _ rfl, e1, blk_carry_other Z 0 1 fA 255 (by omega) lA (by omega), z1]
  · rw [stand_empty _ rfl, e2, hB, blk_carry_mix Z 0 0 66 3 (by omega) z0]

set_option maxRecDepth 100000 in
set_option maxHeartbeats 4000000 in
theorem awake_any (w : World) : Calls Try.prog 25 #[] w fun e w' => e = .returned (.bool true) ∧ Below w.heap.size w w' := by
  obtain ⟨Z, hZ⟩ : ∃ Z, Z = nought (2 * 4096) := ⟨_, rfl⟩
  obtain ⟨fA, hA⟩ : ∃ f, f = fill 65 := ⟨_, rfl⟩
  obtain ⟨fB, hB⟩ : ∃ f, f = fill 66 := ⟨_, rfl⟩
  obtain ⟨f0, h0⟩ : ∃ f, f = fill 0 := ⟨_, rfl⟩
  obtain ⟨fM, hM⟩ : ∃ f, f = mixK 0 66 3 4096 := ⟨_, rfl⟩
  obtain ⟨s0, s1, s2⟩ := awake_d Z hZ fA fB hA hB
  rw [← h0] at s1
  rw [← hM] at s2
  have LA : Hid (fA.length = 4096) := by rw [hA]; exact fill_length _
  have LB : Hid (fB.length = 4096) := by rw [hB]; exact fill_length _
  have L0 : Hid (f0.length = 4096) := by rw [h0]; exact fill_length _
  have LM : Hid (fM.length = 4096) := by rw [hM]; exact mixK_length _ _ _ _
  have cA : ∀ u : World, Calls Try.prog 11 #[.int .u8 65] u fun e w' => ∃ g, e = .returned (.slice (some ⟨g, 0, none⟩) 4096 4096) ∧ u.heap.size ≤ g ∧ Own w' g fA ∧ Below u.heap.size u w' := fun u => by rw [hA]; exact filled_at 65 65 u rfl
  have cB : ∀ u : World, Calls Try.prog 11 #[.int .u8 66] u fun e w' => ∃ g, e = .returned (.slice (some ⟨g, 0, none⟩) 4096 4096) ∧ u.heap.size ≤ g ∧ Own w' g fB ∧ Below u.heap.size u w' := fun u => by rw [hB]; exact filled_at 66 66 u rfl
  have c0 : ∀ u : World, Calls Try.prog 11 #[.int .u8 0] u fun e w' => ∃ g, e = .returned (.slice (some ⟨g, 0, none⟩) 4096 4096) ∧ u.heap.size ≤ g ∧ Own w' g f0 ∧ Below u.heap.size u w' := fun u => by rw [h0]; exact filled_at 0 0 u rfl
  have cM : ∀ u : World, Calls Try.prog 16 #[.int .u8 0, .int .u8 66, .int .i64 3] u fun e w' => ∃ g, e = .returned (.slice (some ⟨g, 0, none⟩) 4096 4096) ∧ u.heap.size ≤ g ∧ Own w' g fM ∧ Below u.heap.size u w' := fun u => by rw [hM]; exact mixed_at 0 66 3 0 66 3 u rfl rfl rfl (by omega)
  have cN : Calls Try.prog 9 #[.int .i64 2] w fun e w' => ∃ g, e = .returned (.tuple #[.pointer (some ⟨g, 0, none⟩), .int .i64 0]) ∧ NewDisk w w' g (two Z [] 0) := by rw [hZ]; exact new_at 2 w (by omega) (by omega)
  have S0 : Hid _ := s0
  have S1 : Hid _ := s1
  have S2 : Hid _ := s2
  clear hZ hA hB h0 hM s0 s1 s2
  go_enter Try.func25, Try.ntmps25
  go_wp2_with fail
  refine cN.mono ?_
  rintro e w1 ⟨g, rfl, F, hd, hF, B⟩
  clear cN
  go_wp2_with fail
  refine (cA w1).mono ?_
  rintro e w2 ⟨ga, rfl, hga, oga, bn⟩
  have hnF : ¬ F ga := fun h => by have := hd.flt _ h; omega
  replace hd := hd.below bn
  replace B := B.trans (bn.mono B.size)
  clear bn
  go_wp2_with fail
  refine (write_at hd 0 (some ⟨ga, 0, none⟩) 4096 4096 fA LA.out ⟨by simp [two], by simp [two]⟩ oga.rd (fun ad h => by cases h; exact hnF)).mono ?_
  rintro e w3 ⟨rfl, ⟨F', hd', hF'⟩, u⟩
  rw [two_writeE Z [] 0 0 0 fA rfl (by omega) LA.out]
  rw [two_write Z [] 0 0 0 fA rfl (by omega) LA.out] at hd'
  have hz := B.size
  replace B := B.trans (u.below hF hz)
  replace hF : ∀ i, F' i → w.heap.size ≤ i := fun i hi => by rcases hF' i hi with h | h; exact hF i h; omega
  clear hd oga hga hnF u hF' hz
  have hd := hd'
  clear hd'
  clear F
  obtain ⟨F, hFe⟩ : ∃ F, F = F' := ⟨_, rfl⟩
  subst hFe
  go_wp2_with fail
  refine (cB w3).mono ?_
  rintro e w4 ⟨ga, rfl, hga, oga, bn⟩
  have hnF : ¬ F ga := fun h => by have := hd.flt _ h; omega
  replace hd := hd.below bn
  replace B := B.trans (bn.mono B.size)
  clear bn
  go_wp2_with fail
  refine (write_at hd 0 (some ⟨ga, 0, none⟩) 4096 4096 fB LB.out ⟨by simp [two], by simp [two]⟩ oga.rd (fun ad h => by cases h; exact hnF)).mono ?_
  rintro e w5 ⟨rfl, ⟨F', hd', hF'⟩, u⟩
  rw [two_writeE Z ([] ++ [(0, fA)]) 1 0 0 fB rfl (by omega) LB.out]
  rw [two_write Z ([] ++ [(0, fA)]) 1 0 0 fB rfl (by omega) LB.out] at hd'
  have hz := B.size
  replace B := B.trans (u.below hF hz)
  replace hF : ∀ i, F' i → w.heap.size ≤ i := fun i hi => by rcases hF' i hi with h | h; exact hF i h; omega
  clear hd oga hga hnF u hF' hz
  have hd := hd'
  clear hd'
  clear F
  obtain ⟨F, hFe⟩ : ∃ F, F = F' := ⟨_, rfl⟩
  subst hFe
  go_wp2_with fail
  refine (cA w5).mono ?_
  rintro e w6 ⟨ga, rfl, hga, oga, bn⟩
  have hnF : ¬ F ga := fun h => by have := hd.flt _ h; omega
  replace hd := hd.below bn
  replace B := B.trans (bn.mono B.size)
  clear bn
  go_wp2_with fail
  refine (write_at hd 1 (some ⟨ga, 0, none⟩) 4096 4096 fA LA.out ⟨by simp [two], by simp [two]⟩ oga.rd (fun ad h => by cases h; exact hnF)).mono ?_
  rintro e w7 ⟨rfl, ⟨F', hd', hF'⟩, u⟩
  rw [two_writeE Z (([] ++ [(0, fA)]) ++ [(0, fB)]) 2 1 1 fA rfl (by omega) LA.out]
  rw [two_write Z (([] ++ [(0, fA)]) ++ [(0, fB)]) 2 1 1 fA rfl (by omega) LA.out] at hd'
  have hz := B.size
  replace B := B.trans (u.below hF hz)
  replace hF : ∀ i, F' i → w.heap.size ≤ i := fun i hi => by rcases hF' i hi with h | h; exact hF i h; omega
  clear hd oga hga hnF u hF' hz
  have hd := hd'
  clear hd'
  clear F
  obtain ⟨F, hFe⟩ : ∃ F, F = F' := ⟨_, rfl⟩
  subst hFe
  have hd3 : IsDisk w7 g (two Z [(0, fA), (0, fB), (1, fA)] 3) F := hd
  clear hd
  go_wp2_with fail
  refine (copy_at hd3 (by simp [two])).mono ?_
  rintro e w8 ⟨gc, rfl, Fc, hc, hFc, bn⟩
  have dj : ∀ i, F i → ¬ Fc i := fun i h1 h2 => by have := hd3.flt _ h1; have := hFc i h2; omega
  have hz := B.size
  replace hFc : ∀ i, Fc i → w.heap.size ≤ i := fun i hi => Nat.le_trans hz (hFc i hi)
  replace hd3 := hd3.below bn
  replace B := B.trans (bn.mono B.size)
  clear bn hz
  go_wp2_with fail
  refine (pending_at hd3 (by simp [two])).mono ?_
  rintro e w9 ⟨v, rfl, op, bn⟩
  obtain ⟨gp, cp, curp, rfl, hgp, hbp, hcp, hp0, hp1, hp2⟩ : ∃ gp cp curp, v = .slice (some ⟨gp, 0, none⟩) 3 cp ∧ w8.heap.size ≤ gp ∧ Box w9 gp curp 3 ∧ cp ≤ 9223372036854775807 ∧ curp[0]? = some (.int .i64 0) ∧ curp[1]? = some (.int .i64 0) ∧ curp[2]? = some (.int .i64 1) := by
    rcases op.2 with ⟨_, h⟩ | ⟨gp, cp, curp, hv, hg, hb, _, hcm, hs, ht⟩
    · simp [two] at h
    · have ht' : curp.toList.take 3 = [.int .i64 0, .int .i64 0, .int .i64 1] := ht
      have q : ∀ j, j < 3 → curp[j]? = ([.int .i64 0, .int .i64 0, .int .i64 1] : List Value)[j]? := fun j hj => by
        rw [← ht', List.getElem?_take, if_pos hj]
        simp
      exact ⟨gp, cp, curp, hv, hg, hb, by unfold maxLen at hcm; omega, q 0 (by omega), q 1 (by omega), q 2 (by omega)⟩
  have npF : ¬ F gp := fun h => by have := hd3.flt _ h; omega
  have npC : ¬ Fc gp := fun h => by have := hc.flt _ h; omega
  replace hd3 := hd3.below bn
  replace hc := hc.below bn
  replace B := B.trans (bn.mono B.size)
  clear bn op hgp
  have bA := (Below.refl w9.heap.size w9).alloc (Nat.le_refl _) (.cells #[.bool true] 4)
  have xb := Box.new w9 #[.bool true] 4
  have nkF : ¬ F w9.heap.size := fun h => by have := hd3.flt _ h; omega
  replace hd3 := hd3.below bA
  replace hc := hc.below bA
  replace hbp := hbp.below bA
  replace B := B.trans (bA.mono B.size)
  have hrk : RdBl (w9.alloc (.cells #[.bool true] 4)) (some ⟨w9.heap.size, 0, none⟩) [true] := fun _ => ⟨_, 0, rfl, fun j hj => by
    have : j = 0 := by simp at hj; omega
    subst this
    exact xb.cell 0⟩
  clear bA xb
  go_wp2_with fail
  refine (crash_at hd3 (some ⟨w9.heap.size, 0, none⟩) 1 1 [true] (-1) 0 (by omega) rfl (by omega) hrk (fun ad h _ => by cases h; exact nkF)).mono ?_
  rintro e w10 ⟨rfl, hd4, u⟩
  replace hc := hc.upd u (fun i h1 h2 => dj i h2 h1)
  replace hbp := u.box hbp npF
  have hz := B.size
  replace B := B.trans (u.below hF hz)
  clear hd3 u hz hrk nkF
  go_wp2_with fail
  refine (crash_at hc none 0 0 [] 1 3 (by omega) rfl (by omega) (RdBl.nil _ _) (fun ad h => by cases h)).mono ?_
  rintro e w11 ⟨rfl, hc5, u⟩
  have hd5 := hd4.upd u dj
  replace hbp := u.box hbp npC
  have hz := B.size
  replace B := B.trans (u.below hFc hz)
  clear hc hd4 u hz
  have bA := (Below.refl w11.heap.size w11).alloc (Nat.le_refl _) (.cells #[.int .i64 0, .int .i64 0, .int .i64 1] 3)
  have xb := Box.new w11 #[.int .i64 0, .int .i64 0, .int .i64 1] 3
  replace hd5 := hd5.below bA
  replace hc5 := hc5.below bA
  replace hbp := hbp.below bA
  replace B := B.trans (bA.mono B.size)
  have i1 : ∀ j (h : j < ([0, 0, 1] : List Int).length), (w11.alloc (.cells #[.int .i64 0, .int .i64 0, .int .i64 1] 3)).cell? ⟨gp, 0 + j, none⟩ = some (.int .i64 ([0, 0, 1] : List Int)[j]) := by
    intro j hj
    match j, hj with
    | 0, _ => rw [hbp.cell]; exact hp0
    | 1, _ => rw [hbp.cell]; exact hp1
    | 2, _ => rw [hbp.cell]; exact hp2
  have i2 : ∀ j (h : j < ([0, 0, 1] : List Int).length), (w11.alloc (.cells #[.int .i64 0, .int .i64 0, .int .i64 1] 3)).cell? ⟨w11.heap.size, 0 + j, none⟩ = some (.int .i64 ([0, 0, 1] : List Int)[j]) := by
    intro j hj
    match j, hj with
    | 0, _ => exact xb.cell 0
    | 1, _ => exact xb.cell 1
    | 2, _ => exact xb.cell 2
  clear bA xb
  go_wp2_with fail
  refine (sameInts_self 3 cp 3 gp 0 w11.heap.size 0 [0, 0, 1] _ rfl (by omega) i1 i2).mono ?_
  rintro e w12 ⟨rfl, bn⟩
  replace hd5 := hd5.below bn
  replace hc5 := hc5.below bn
  replace B := B.trans (bn.mono B.size)
  clear bn i1 i2 hbp
  go_wp2_with fail
  refine (cA w12).mono ?_
  rintro e w13 ⟨ga, rfl, hga, oga, bn⟩
  replace hd5 := hd5.below bn
  replace hc5 := hc5.below bn
  replace B := B.trans (bn.mono B.size)
  clear bn hga
  go_wp2_with fail
  refine (lawHas_at hd5 0 _ rfl (show 0 < 2 by omega) rfl (by simp [DS.crash]) (some ⟨ga, 0, none⟩) 4096 4096 fA LA.out oga.rd).mono ?_
  rintro e w14 ⟨rfl, bn⟩
  rw [S0.out, beq_self_eq_true]
  replace hd5 := hd5.below bn
  replace hc5 := hc5.below bn
  replace B := B.trans (bn.mono B.size)
  clear bn oga
  go_wp2_with fail
  refine (c0 w14).mono ?_
  rintro e w15 ⟨ga, rfl, hga, oga, bn⟩
  replace hd5 := hd5.below bn
  replace hc5 := hc5.below bn
  replace B := B.trans (bn.mono B.size)
  clear bn hga
  go_wp2_with fail
  refine (lawHas_at hd5 1 _ rfl (show 1 < 2 by omega) rfl (by simp [DS.crash]) (some ⟨ga, 0, none⟩) 4096 4096 f0 L0.out oga.rd).mono ?_
  rintro e w16 ⟨rfl, bn⟩
  rw [S1.out, beq_self_eq_true]
  replace hd5 := hd5.below bn
  replace hc5 := hc5.below bn
  replace B := B.trans (bn.mono B.size)
  clear bn oga
  go_wp2_with fail
  refine (cM w16).mono ?_
  rintro e w17 ⟨ga, rfl, hga, oga, bn⟩
  replace hd5 := hd5.below bn
  replace hc5 := hc5.below bn
  replace B := B.trans (bn.mono B.size)
  clear bn hga
  go_wp2_with fail
  refine (lawHas_at hc5 0 _ rfl (show 0 < 2 by omega) rfl (by simp [DS.crash]) (some ⟨ga, 0, none⟩) 4096 4096 fM LM.out oga.rd).mono ?_
  rintro e w18 ⟨rfl, bn⟩
  rw [S2.out, beq_self_eq_true]
  replace hd5 := hd5.below bn
  replace hc5 := hc5.below bn
  replace B := B.trans (bn.mono B.size)
  clear bn oga
  go_wp2
  go_ret
  exact ⟨rfl, B⟩
end Go.Proofs.Ytagnmmapnpcijaa
