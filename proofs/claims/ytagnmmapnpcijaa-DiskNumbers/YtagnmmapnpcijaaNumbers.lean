/-
  The walk of DiskNumbers: the chapter's fixed examples.
-/
import Derived.Test.YtagnmmapnpcijaaSteps
namespace Go.Proofs.Ytagnmmapnpcijaa
open Go.RowKit

def off : Fuse := ⟨false, 0⟩
def on (k : Nat) : Fuse := ⟨true, k⟩
def st (E : List UInt8) (uf : List (Nat × List UInt8)) (n : Nat) (gone : Bool) (arm fail : Fuse) : DS := ⟨2, E, uf, n, gone, arm, fail⟩

theorem carry_zero (d : List UInt8) (b : Nat) (x : List UInt8) : carry d b x 0 = d := rfl
theorem stF (E : List UInt8) (uf : List (Nat × List UInt8)) (n : Nat) (gone : Bool) (arm fail : Fuse) (h1 : uf.length ≤ 1000) (h2 : n ≤ 1000) : writeF (st E uf n gone arm fail) := ⟨Nat.le_trans h1 (by omega), Nat.le_trans h2 (by omega)⟩
theorem st_w (E : List UInt8) (uf : List (Nat × List UInt8)) (n b : Nat) (B : Int) (x : List UInt8) (hB : B = (b : Int)) (hb : b < 2) (hx : x.length = 4096) : (st E uf n false off off).write B x = st E (uf ++ [(b, x)]) (n + 1) false off off := two_write E uf n b B x hB hb hx
theorem st_wE (E : List UInt8) (uf : List (Nat × List UInt8)) (n b : Nat) (B : Int) (x : List UInt8) (hB : B = (b : Int)) (hb : b < 2) (hx : x.length = 4096) : (st E uf n false off off).writeE B x = 0 := two_writeE E uf n b B x hB hb hx
theorem st_bad (D : DS) (hn : D.nb = 2) (B : Int) (x : List UInt8) (h : B = 2 ∨ B = -1) : D.write B x = D ∧ D.writeE B x = 70 := by
  rcases h with rfl | rfl <;> simp [DS.write, DS.writeE, DS.has, hn]
theorem st_nil (D : DS) (hn : D.nb = 2) : D.write 0 [] = D ∧ D.writeE 0 [] = 2 := by
  simp [DS.write, DS.writeE, DS.has, hn]
theorem st_wa (E : List UInt8) (n : Nat) (x : List UInt8) (hx : x.length = 4096) : (st E [] n false (on 1) off).write 0 x = st E [(0, x)] (n + 1) false (on 0) off ∧ (st E [] n false (on 1) off).writeE 0 x = 0 := by
  simp [DS.write, DS.writeE, DS.has, hx, st, on, off, DS.operE, DS.oper, Fuse.stops, Fuse.then]
theorem st_wg (E : List UInt8) (uf : List (Nat × List UInt8)) (n : Nat) (x : List UInt8) (hx : x.length = 4096) : (st E uf n true off off).write 0 x = st E uf n true off off ∧ (st E uf n true off off).writeE 0 x = 6 := by
  simp [DS.write, DS.writeE, DS.has, hx, st, off, DS.operE, DS.oper]

theorem numbers_d (Z : List UInt8) (lZ : Z.length = 8192) (E1 E2 E3 E4 fA fB f7 : List UInt8) (hA : fA = fill 65) (hB : fB = fill 66) (_l7 : f7.length = 4096)
    (h1 : E1 = carry (carry Z 0 fB 255) 1 fA 255) (h2 : E2 = carry E1 0 fA 255) (h3 : E3 = carry E2 0 fB 128) (h4 : E4 = carry E3 0 f7 0) :
    blk E1 0 = fB ∧ blk E1 1 = fA ∧ blk E3 0 = mixK 65 66 128 4096 ∧ blk E4 0 = mixK 65 66 128 4096 := by
  have lA : fA.length = 4096 := by rw [hA, fill_length]
  have lB : fB.length = 4096 := by rw [hB, fill_length]
  have l0 : (carry Z 0 fB 255).length = 8192 := by rw [carry_length Z 0 fB 255 (by omega) lB, lZ]
  have l1 : E1.length = 8192 := by rw [h1, carry_length _ 1 fA 255 (by omega) lA, l0]
  have l2 : E2.length = 8192 := by rw [h2, carry_length _ 0 fA 255 (by omega) lA, l1]
  have s3 : blk E3 0 = mixK 65 66 128 4096 := by
    rw [h3, hB]
    refine blk_carry_mix E2 0 65 66 128 (by omega) ?_
    rw [h2, blk_carry_all E1 0 fA (by omega) lA, hA]
  refine ⟨?_, ?_, s3, ?_⟩
  · rw [h1, blk_carry_other _ 1 0 fA 255 (by omega) lA (by omega), blk_carry_all Z 0 fB (by omega) lB]
  · rw [h1, blk_carry_all _ 1 fA (by omega) lA]
  · rw [h4, carry_zero, s3]

theorem st_stand (E : List UInt8) (n k : Nat) (x : List UInt8) (h : blk E k = x) : (st E [] n false off off).stand k = x := by
  rw [stand_empty _ rfl]
  exact h
theorem new_stand (a b : List UInt8) (ha : a.length = 4096) (hb : b.length = 4096) : (DS.new 2 (a ++ b)).stand 1 = b := by
  rw [stand_empty _ rfl]
  show blk (a ++ b) 1 = b
  unfold blk
  rw [Nat.one_mul, List.drop_append_of_le_length (by omega), List.drop_of_length_le (by omega), List.nil_append, List.take_of_length_le (by omega)]

theorem Own.ownsRow {w : World} {g : Nat} {x : List UInt8} (h : Own w g x) (B n : Nat) (hn : x.length = n) (hB : B ≤ g) (hm : n ≤ 1000000) : w.ownsRow B 5 1 (.slice (some ⟨g, 0, none⟩) n n) n (bcs x) := by
  subst hn
  refine ⟨by rw [bcs_length, Nat.mul_one], .inr ⟨g, x.length, (bcs x).toArray, rfl, hB, h, Nat.le_refl _, by unfold maxLen; omega, by simp [bcs_length], ?_⟩⟩
  rw [List.take_of_length_le (by simp [bcs_length])]

set_option maxRecDepth 100000 in
set_option maxHeartbeats 8000000 in
theorem numbers_any (w : World) : Calls Try.prog 3 #[] w fun e w' => e = .returned (.bool true) ∧ Below w.heap.size w w' := by
  obtain ⟨Z, hZ⟩ : ∃ Z, Z = nought (2 * 4096) := ⟨_, rfl⟩
  obtain ⟨fA, hA⟩ : ∃ f, f = fill 65 := ⟨_, rfl⟩
  obtain ⟨fB, hB⟩ : ∃ f, f = fill 66 := ⟨_, rfl⟩
  obtain ⟨f0, h0⟩ : ∃ f, f = fill 0 := ⟨_, rfl⟩
  obtain ⟨f7, h7⟩ : ∃ f, f = fill 7 := ⟨_, rfl⟩
  obtain ⟨f1, hf1⟩ : ∃ f, f = fill 1 := ⟨_, rfl⟩
  obtain ⟨f2, hf2⟩ : ∃ f, f = fill 2 := ⟨_, rfl⟩
  obtain ⟨fM, hM⟩ : ∃ f, f = mixK 65 66 128 4096 := ⟨_, rfl⟩
  obtain ⟨E1, h1⟩ : ∃ E, E = carry (carry Z 0 fB 255) 1 fA 255 := ⟨_, rfl⟩
  obtain ⟨E2, h2⟩ : ∃ E, E = carry E1 0 fA 255 := ⟨_, rfl⟩
  obtain ⟨E3, h3⟩ : ∃ E, E = carry E2 0 fB 128 := ⟨_, rfl⟩
  obtain ⟨E4, h4⟩ : ∃ E, E = carry E3 0 f7 0 := ⟨_, rfl⟩
  obtain ⟨z1, hz1⟩ : ∃ z, z = (bcs (nought 4095)).toArray := ⟨_, rfl⟩
  obtain ⟨z2, hz2⟩ : ∃ z, z = (bcs (nought 2101248)).toArray := ⟨_, rfl⟩
  obtain ⟨ZX, hZX⟩ : ∃ Z, Z = nought (512 * 4096) := ⟨_, rfl⟩
  have lZ : Z.length = 8192 := by rw [hZ, nought_length]
  have l7 : f7.length = 4096 := by rw [h7, fill_length]
  obtain ⟨s1, s2, s3, s4⟩ := numbers_d Z lZ E1 E2 E3 E4 fA fB f7 hA hB l7 h1 h2 h3 h4
  rw [← hM] at s3 s4
  have S1 : Hid (blk E1 0 = fB) := s1
  have S2 : Hid (blk E1 1 = fA) := s2
  have S3 : Hid (blk E3 0 = fM) := s3
  have S4 : Hid (blk E4 0 = fM) := s4
  have LA : Hid (fA.length = 4096) := by rw [hA]; exact fill_length _
  have LB : Hid (fB.length = 4096) := by rw [hB]; exact fill_length _
  have L0 : Hid (f0.length = 4096) := by rw [h0]; exact fill_length _
  have L7 : Hid (f7.length = 4096) := l7
  have L1 : Hid (f1.length = 4096) := by rw [hf1]; exact fill_length _
  have L2 : Hid (f2.length = 4096) := by rw [hf2]; exact fill_length _
  have LM : Hid (fM.length = 4096) := by rw [hM]; exact mixK_length _ _ _ _
  have HA : Hid (fA = fill 65) := hA
  have HB : Hid (fB = fill 66) := hB
  have H0 : Hid (f0 = fill 0) := h0
  have H7 : Hid (f7 = fill 7) := h7
  have H1 : Hid (f1 = fill 1) := hf1
  have H2 : Hid (f2 = fill 2) := hf2
  have HM : Hid (fM = mixK 65 66 128 4096) := hM
  have D1 : Hid ((st Z [(0, fA), (0, fB), (1, fA)] 3 false off off).crash [false, true, true] 9 255 = st E1 [] 3 false off off) := by rw [h1]; rfl
  have D2 : Hid ((st E1 [(0, fA)] 4 false off off).flush = st E2 [] 4 false off off) := by rw [h2]; rfl
  have D3 : Hid ((st E2 [(0, fB)] 5 false off off).crash [true] 0 128 = st E3 [] 5 false off off) := by rw [h3]; rfl
  have D4 : Hid ((st E3 [(0, f7)] 6 true off off).crash [] 0 0 = st E4 [] 6 false off off) := by rw [h4]; rfl
  have cN : Calls Try.prog 9 #[.int .i64 2] w fun e w' => ∃ g, e = .returned (.tuple #[.pointer (some ⟨g, 0, none⟩), .int .i64 0]) ∧ At w w' g (st Z [] 0 false off off) := by rw [hZ]; exact new_at 2 w (by omega) (by omega)
  have cX : ∀ u : World, Calls Try.prog 9 #[.int .i64 512] u fun e w' => ∃ g, e = .returned (.tuple #[.pointer (some ⟨g, 0, none⟩), .int .i64 0]) ∧ NewDisk u w' g (DS.new 512 ZX) := fun u => by rw [hZX]; exact new_at 512 u (by omega) (by omega)
  have hm1 : ∀ u : World, (Instr.makeSlice 27 (.int .i64 4095) (.int .i64 4095)).run Try.prog u = .ok (.slice (some ⟨u.heap.size, 0, none⟩) 4095 4095) (u.alloc (.cells z1 5)) := by rw [hz1]; exact make_run 4095 (by omega)
  have hm2 : ∀ u : World, (Instr.makeSlice 27 (.int .i64 2101248) (.int .i64 2101248)).run Try.prog u = .ok (.slice (some ⟨u.heap.size, 0, none⟩) 2101248 2101248) (u.alloc (.cells z2 5)) := by rw [hz2]; exact make_run 2101248 (by omega)
  clear hZ hA hB h0 h7 hf1 hf2 hM h1 h2 h3 h4 hz1 hz2 hZX s1 s2 s3 s4 lZ l7
  go_enter Try.func3, Try.ntmps3
  go_wp2_with fail
  refine cN.mono ?_
  rintro e w1 ⟨g, rfl, h⟩
  clear cN
  go_wp2_with fail
  refine (h.filled 65 65 fA rfl HA.out).mono ?_
  rintro e w2 ⟨ga, rfl, h2⟩
  clear h
  go_wp2_with fail
  refine (h2.write 0 0 0 (st Z [(0, fA)] 1 false off off) LA.out (stF _ _ _ _ _ _ (by simp) (by omega)) (st_wE _ _ _ 0 0 fA rfl (by omega) LA.out) rfl (st_w Z [] 0 0 0 fA rfl (by omega) LA.out)).mono ?_
  rintro e w3 ⟨rfl, h⟩
  clear h2
  go_wp2_with fail
  refine (h.filled 66 66 fB rfl HB.out).mono ?_
  rintro e w4 ⟨ga, rfl, h2⟩
  clear h
  go_wp2_with fail
  refine (h2.write 0 0 0 (st Z [(0, fA), (0, fB)] 2 false off off) LB.out (stF _ _ _ _ _ _ (by simp) (by omega)) (st_wE _ _ _ 0 0 fB rfl (by omega) LB.out) rfl (st_w Z [(0, fA)] 1 0 0 fB rfl (by omega) LB.out)).mono ?_
  rintro e w5 ⟨rfl, h⟩
  clear h2
  go_wp2_with fail
  refine (h.filled 65 65 fA rfl HA.out).mono ?_
  rintro e w6 ⟨ga, rfl, h2⟩
  clear h
  go_wp2_with fail
  refine (h2.write 1 0 0 (st Z [(0, fA), (0, fB), (1, fA)] 3 false off off) LA.out (stF _ _ _ _ _ _ (by simp) (by omega)) (st_wE _ _ _ 1 1 fA rfl (by omega) LA.out) rfl (st_w Z [(0, fA), (0, fB)] 2 1 1 fA rfl (by omega) LA.out)).mono ?_
  rintro e w7 ⟨rfl, h⟩
  clear h2
  go_wp2_with fail
  refine (h.crash [false, true, true] 3 rfl (by omega) _ rfl 9 255 255 rfl (by omega) _ D1.out).mono ?_
  rintro e w8 ⟨rfl, h2⟩
  clear h
  have h := h2
  clear h2
  go_wp2_with fail
  refine (h.filled 66 66 fB rfl HB.out).mono ?_
  rintro e w9 ⟨ga, rfl, h2⟩
  clear h
  go_wp2_with fail
  refine (h2.has 0 0 rfl (show 0 < 2 by omega) rfl (by simp [st]) LB.out (st_stand _ _ _ _ S1.out)).mono ?_
  rintro e w10 ⟨rfl, h⟩
  clear h2
  go_wp2_with fail
  refine (h.filled 65 65 fA rfl HA.out).mono ?_
  rintro e w11 ⟨ga, rfl, h2⟩
  clear h
  go_wp2_with fail
  refine (h2.has 1 1 rfl (show 1 < 2 by omega) rfl (by simp [st]) LA.out (st_stand _ _ _ _ S2.out)).mono ?_
  rintro e w12 ⟨rfl, h⟩
  clear h2
  go_wp2_with fail
  refine (h.writes 3 3 rfl rfl).mono ?_
  rintro e w' ⟨rfl, rfl⟩
  go_wp2_with fail
  refine (h.filled 65 65 fA rfl HA.out).mono ?_
  rintro e w13 ⟨ga, rfl, h2⟩
  clear h
  go_wp2_with fail
  refine (h2.write 0 0 0 (st E1 [(0, fA)] 4 false off off) LA.out (stF _ _ _ _ _ _ (by simp) (by omega)) (st_wE _ _ _ 0 0 fA rfl (by omega) LA.out) rfl (st_w E1 [] 3 0 0 fA rfl (by omega) LA.out)).mono ?_
  rintro e w14 ⟨rfl, h⟩
  clear h2
  go_wp2_with fail
  refine (h.flush 0 0 _ rfl rfl D2.out).mono ?_
  rintro e w15 ⟨rfl, h2⟩
  clear h
  have h := h2
  clear h2
  go_wp2_with fail
  refine (h.filled 66 66 fB rfl HB.out).mono ?_
  rintro e w16 ⟨ga, rfl, h2⟩
  clear h
  go_wp2_with fail
  refine (h2.write 0 0 0 (st E2 [(0, fB)] 5 false off off) LB.out (stF _ _ _ _ _ _ (by simp) (by omega)) (st_wE _ _ _ 0 0 fB rfl (by omega) LB.out) rfl (st_w E2 [] 4 0 0 fB rfl (by omega) LB.out)).mono ?_
  rintro e w17 ⟨rfl, h⟩
  clear h2
  go_wp2_with fail
  refine (h.crash [true] 1 rfl (by omega) _ rfl 0 128 128 rfl (by omega) _ D3.out).mono ?_
  rintro e w18 ⟨rfl, h2⟩
  clear h
  have h := h2
  clear h2
  go_wp2_with fail
  refine (h.mixed 65 66 128 65 66 128 fM rfl rfl rfl (by omega) HM.out).mono ?_
  rintro e w19 ⟨ga, rfl, h2⟩
  clear h
  go_wp2_with fail
  refine (h2.has 0 0 rfl (show 0 < 2 by omega) rfl (by simp [st]) LM.out (st_stand _ _ _ _ S3.out)).mono ?_
  rintro e w20 ⟨rfl, h⟩
  clear h2
  go_wp2_with fail
  refine (h.writes 5 5 rfl rfl).mono ?_
  rintro e w' ⟨rfl, rfl⟩
  go_wp2_with fail
  refine (h.copy (by simp [st])).mono ?_
  rintro e w21 ⟨gc, rfl, hc, h2⟩
  clear h
  have h := h2
  clear h2
  go_wp2_with fail
  refine (hc.writes 0 0 rfl rfl).mono ?_
  rintro e w' ⟨rfl, rfl⟩
  clear hc
  go_wp2_with fail
  refine (h.filled 0 0 f0 rfl H0.out).mono ?_
  rintro e w22 ⟨ga, rfl, h2⟩
  clear h
  go_wp2_with fail
  refine (h2.write (2) 70 70 (st E3 [] 5 false off off) L0.out (stF _ _ _ _ _ _ (by simp) (by omega)) (st_bad _ rfl (2) f0 (by omega)).2 rfl (st_bad _ rfl (2) f0 (by omega)).1).mono ?_
  rintro e w23 ⟨rfl, h⟩
  clear h2
  go_wp2_with fail
  refine (h.filled 0 0 f0 rfl H0.out).mono ?_
  rintro e w24 ⟨ga, rfl, h2⟩
  clear h
  go_wp2_with fail
  refine (h2.write (-1) 70 70 (st E3 [] 5 false off off) L0.out (stF _ _ _ _ _ _ (by simp) (by omega)) (st_bad _ rfl (-1) f0 (by omega)).2 rfl (st_bad _ rfl (-1) f0 (by omega)).1).mono ?_
  rintro e w25 ⟨rfl, h⟩
  clear h2
  go_wp2_with fail
  refine (h.writeNil 0 2 2 (st E3 [] 5 false off off) (stF _ _ _ _ _ _ (by simp) (by omega)) (st_nil _ rfl).2 rfl (st_nil _ rfl).1).mono ?_
  rintro e w26 ⟨rfl, h2⟩
  clear h
  have h := h2
  clear h2
  go_wp2_with fail
  refine (h.writeNil 2 70 70 (st E3 [] 5 false off off) (stF _ _ _ _ _ _ (by simp) (by omega)) (st_bad _ rfl 2 [] (by omega)).2 rfl (st_bad _ rfl 2 [] (by omega)).1).mono ?_
  rintro e w27 ⟨rfl, h2⟩
  clear h
  have h := h2
  clear h2
  go_wp2_with fail
  refine (h.arm 1 (by omega) 0 0 (st E3 [] 5 false (on 1) off) rfl rfl rfl).mono ?_
  rintro e w28 ⟨rfl, h2⟩
  clear h
  have h := h2
  clear h2
  go_wp2_with fail
  refine (h.filled 7 7 f7 rfl H7.out).mono ?_
  rintro e w29 ⟨ga, rfl, h2⟩
  clear h
  go_wp2_with fail
  refine (h2.write 0 0 0 (st E3 [(0, f7)] 6 false (on 0) off) L7.out (stF _ _ _ _ _ _ (by simp) (by omega)) (st_wa E3 5 f7 L7.out).2 rfl (st_wa E3 5 f7 L7.out).1).mono ?_
  rintro e w30 ⟨rfl, h⟩
  clear h2
  go_wp2_with fail
  refine (h.flush 6 6 (st E3 [(0, f7)] 6 true off off) rfl rfl rfl).mono ?_
  rintro e w31 ⟨rfl, h2⟩
  clear h
  have h := h2
  clear h2
  go_wp2_with fail
  refine (h.filled 0 0 f0 rfl H0.out).mono ?_
  rintro e w32 ⟨ga, rfl, h2⟩
  clear h
  go_wp2_with fail
  refine (h2.write 0 6 6 (st E3 [(0, f7)] 6 true off off) L0.out (stF _ _ _ _ _ _ (by simp) (by omega)) (st_wg E3 [(0, f7)] 6 f0 L0.out).2 rfl (st_wg E3 [(0, f7)] 6 f0 L0.out).1).mono ?_
  rintro e w33 ⟨rfl, h⟩
  clear h2
  go_wp2_with fail
  refine (h.readBad 0 6 6 rfl rfl (by omega)).mono ?_
  rintro e w' ⟨rfl, rfl⟩
  go_wp2_with fail
  refine (h.readBad 2 70 70 rfl rfl (by omega)).mono ?_
  rintro e w' ⟨rfl, rfl⟩
  go_wp2_with fail
  refine (h.crashNil 0 0 0 rfl (by omega) _ D4.out).mono ?_
  rintro e w34 ⟨rfl, h2⟩
  clear h
  have h := h2
  clear h2
  go_wp2_with fail
  refine (h.mixed 65 66 128 65 66 128 fM rfl rfl rfl (by omega) HM.out).mono ?_
  rintro e w35 ⟨ga, rfl, h2⟩
  clear h
  go_wp2_with fail
  refine (h2.has 0 0 rfl (show 0 < 2 by omega) rfl (by simp [st]) LM.out (st_stand _ _ _ _ S4.out)).mono ?_
  rintro e w36 ⟨rfl, h⟩
  clear h2
  go_wp2_with fail
  refine (h.fail 0 (by omega) 0 0 (st E4 [] 6 false off (on 0)) rfl rfl rfl).mono ?_
  rintro e w37 ⟨rfl, h2⟩
  clear h
  have h := h2
  clear h2
  go_wp2_with fail
  refine (h.flush 4 4 (st E4 [] 6 false off off) rfl rfl rfl).mono ?_
  rintro e w38 ⟨rfl, h2⟩
  clear h
  have h := h2
  clear h2
  go_wp2_with fail
  refine (h.flush 0 0 (st E4 [] 6 false off off) rfl rfl rfl).mono ?_
  rintro e w39 ⟨rfl, h2⟩
  clear h
  have h := h2
  clear h2
  go_wp2_with fail
  refine (h.fail 1 (by omega) 0 0 (st E4 [] 6 false off (on 1)) rfl rfl rfl).mono ?_
  rintro e w40 ⟨rfl, h2⟩
  clear h
  have h := h2
  clear h2
  go_wp2_with fail
  refine (h.arm 1 (by omega) 0 0 (st E4 [] 6 false (on 1) (on 1)) rfl rfl rfl).mono ?_
  rintro e w41 ⟨rfl, h2⟩
  clear h
  have h := h2
  clear h2
  go_wp2_with fail
  refine (h.flush 0 0 (st E4 [] 6 false (on 0) (on 0)) rfl rfl rfl).mono ?_
  rintro e w42 ⟨rfl, h2⟩
  clear h
  have h := h2
  clear h2
  go_wp2_with fail
  refine (h.flush 6 6 (st E4 [] 6 true off off) rfl rfl rfl).mono ?_
  rintro e w43 ⟨rfl, h2⟩
  clear h
  have h := h2
  clear h2
  go_wp2_with fail
  refine (h.arm (-1) (by omega) 2 2 (st E4 [] 6 true off off) rfl rfl rfl).mono ?_
  rintro e w44 ⟨rfl, h2⟩
  clear h
  have h := h2
  clear h2
  go_wp2_with fail
  refine (h.fail (-1) (by omega) 2 2 (st E4 [] 6 true off off) rfl rfl rfl).mono ?_
  rintro e w45 ⟨rfl, h2⟩
  clear h
  have h := h2
  clear h2
  have B := h.bel
  clear h
  clear S1 S2 S3 S4 D1 D2 D3 D4 LA LB L0 L7 LM HA HB H0 H7 HM
  clear E1 E2 E3 E4 fA fB f0 f7 fM Z
  go_wp2_with fail
  refine (new_bad 0 w45 (by omega)).mono ?_
  rintro e w' ⟨rfl, rfl⟩
  go_wp2_with fail
  refine (new_bad 513 w45 (by omega)).mono ?_
  rintro e w' ⟨rfl, rfl⟩
  go_wp2_with fail
  refine (cX w45).mono ?_
  rintro e w46 ⟨gx, rfl, F, hd, hF, bn⟩
  have hx : At w w46 gx (DS.new 512 ZX) := ⟨F, hd, fun i hi => Nat.le_trans B.size (hF i hi), B.trans (bn.mono B.size)⟩
  clear hd hF bn B cX
  have bA := (Below.refl w46.heap.size w46).alloc (Nat.le_refl _) (.cells z1 5)
  have hx' := hx.below bA
  clear hx bA
  have hx := hx'
  clear hx'
  go_wp2_with fail
  generalize w46.alloc (.cells z1 5) = w47 at hx ⊢
  refine (load_bad 4095 4095 _ w47 (by omega) (by omega)).mono ?_
  rintro e w' ⟨rfl, rfl⟩
  clear hm1
  go_wp2_with fail
  refine (load_bad 0 0 none w47 (by omega) (by omega)).mono ?_
  rintro e w' ⟨rfl, rfl⟩
  have bA := (Below.refl w47.heap.size w47).alloc (Nat.le_refl _) (.cells z2 5)
  have hx' := hx.below bA
  clear hx bA
  have hx := hx'
  clear hx'
  go_wp2_with fail
  generalize w47.alloc (.cells z2 5) = w48 at hx ⊢
  refine (load_bad 2101248 2101248 _ w48 (by omega) (by omega)).mono ?_
  rintro e w' ⟨rfl, rfl⟩
  clear hm2
  go_wp2_with fail
  refine (filled_at 1 1 w48 rfl).mono ?_
  rintro e w49 ⟨ga, rfl, hga, oa, bn⟩
  rw [← H1.out] at oa
  have B0 := hx.bel
  have hga0 := Nat.le_trans B0.size hga
  have nF : ∀ F D, IsDisk w48 gx D F → ¬ F ga := fun F D hd h => by have := hd.flt _ h; omega
  obtain ⟨F, hd, hF, B⟩ := hx
  have nFa := nF F _ hd
  have hd1 := hd.below bn
  have B1 := B.trans (bn.mono B.size)
  clear hd bn B nF B0 hga
  go_wp2_with fail
  refine (filled_at 2 2 w49 rfl).mono ?_
  rintro e w50 ⟨gb, rfl, hgb, ob, bn⟩
  rw [← H2.out] at ob
  have oa2 := oa.below bn (Array.getElem?_eq_some_iff.1 oa).1
  have hd2 := hd1.below bn
  have B2 := B1.trans (bn.mono B1.size)
  have own := oa2.ownsRow w.heap.size 4096 L1.out hga0 (by omega)
  have rb := ob.rd
  clear hd1 B1 bn oa oa2 hgb
  go_wp2_with (at_builtin; refine wpList_append_bytes rfl _ _ rfl w.heap.size (.slice (some ⟨ga, 0, none⟩) 4096 4096) 4096 (bcs f1) rfl own (some ⟨gb, 0, none⟩) 4096 4096 f2 rfl L2.out rb (fun h => by cases h) (by omega) B2.size ?_)
  rintro v w51 ho hg
  have ho' : w51.ownsRow w.heap.size 5 1 v 8192 (bcs (f1 ++ f2)) := by rw [bcs_append]; exact ho
  obtain ⟨gy, cy, rfl, hgy, row⟩ := RowB.owns ho' (by omega)
  have u : Upd (fun i => i = ga) w50 w51 := (Upd.refl _ _).grown hg (fun k e => by simp only [Value.ownBlock, Option.some.injEq] at e; exact .inl e.symm)
  have hd3 := hd2.upd u (fun i h1 h2 => by subst h2; exact nFa h1)
  have B3 := B2.trans (u.below (fun i h => by subst h; exact hga0) B2.size)
  have ll0 : (f1 ++ f2).length = 2 * 4096 := by rw [List.length_append, L1.out, L2.out]
  have ll : Hid ((f1 ++ f2).length = 2 * 4096) := ll0
  clear ll0
  have rr := row.rd
  have cl : Calls Try.prog 21 #[.slice (some ⟨gy, 0, none⟩) 8192 cy] w51 fun e w' => ∃ g, e = .returned (.tuple #[.pointer (some ⟨g, 0, none⟩), .int .i64 0]) ∧ NewDisk w51 w' g (DS.new 2 (f1 ++ f2)) := load_at 2 cy _ (f1 ++ f2) w51 (by omega) (by omega) ll.out rr
  have hx : At w w51 gx (DS.new 512 ZX) := ⟨F, hd3, hF, B3⟩
  clear own rb ob hd2 u B2 ho ho' hg row rr hd3 nFa
  go_wp2_with fail
  refine cl.mono ?_
  rintro e w52 ⟨g2, rfl, F2, hd, hF2, bn⟩
  have hx' := hx.below bn
  have h : At w w52 g2 (DS.new 2 (f1 ++ f2)) := ⟨F2, hd, fun i hi => Nat.le_trans B3.size (hF2 i hi), B3.trans (bn.mono B3.size)⟩
  have ST : Hid ((DS.new 2 (f1 ++ f2)).stand 1 = f2) := new_stand f1 f2 L1.out L2.out
  clear hx bn hd hF2 cl B3 hF hga0 ll
  go_wp2_with fail
  refine (hx'.size 512 512 rfl rfl).mono ?_
  rintro e w' ⟨rfl, rfl⟩
  go_wp2_with fail
  refine (h.size 2 2 rfl rfl).mono ?_
  rintro e w' ⟨rfl, rfl⟩
  go_wp2_with fail
  refine (h.filled 2 2 f2 rfl H2.out).mono ?_
  rintro e w53 ⟨gq, rfl, h2⟩
  clear h hx'
  go_wp2_with fail
  refine (h2.has 1 1 rfl (show 1 < 2 by omega) rfl (by simp [DS.new]) L2.out ST.out).mono ?_
  rintro e w54 ⟨rfl, h⟩
  clear h2
  go_wp2_with fail
  refine (h.pending0 rfl).mono ?_
  rintro e w55 ⟨ap, cp, rfl, h2⟩
  clear h
  go_wp2_with fail
  refine (h2.image 8192 rfl).mono ?_
  rintro e w56 ⟨gi, ci, rfl, h⟩
  clear h2
  have B := h.bel
  clear h
  go_wp2_with fail
  refine (awake_any w56).mono ?_
  rintro e w57 ⟨rfl, bn⟩
  have B' := B.trans (bn.mono B.size)
  clear B bn
  go_wp2
  go_ret
  exact ⟨rfl, B'⟩
end Go.Proofs.Ytagnmmapnpcijaa
