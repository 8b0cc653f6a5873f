/-
  A superblock: what is right, its bytes, PutSuper.
-/
import Derived.Test.YtmhplpiglbamcaaExts
import Derived.Test.YtmhplpiglbamcaaNoughts
namespace Go.Proofs.Ytmhplpiglbamcaa
open Go.RowKit

def rightS (b e q t : Int) : Bool := wi b 64 512 && (wi e 1 8388608 && (wi q 1 549755813888 && wi t 0 511))

set_option maxHeartbeats 400000 in
theorem rightSuper_at (b e q t : Int) (w : World) : Calls Try.prog 37 #[.agg #[.int .i64 b, .int .i64 e, .int .i64 q, .int .i64 t]] w fun r w' => r = .returned (.bool (rightS b e q t)) ∧ Below w.heap.size w w' := by
  unfold rightS
  have hb := fun o => (Below.refl w.heap.size w).alloc (Nat.le_refl _) o
  cases h1 : wi b 64 512
  · go_enter Try.func37, Try.ntmps37
    go_wp2_with fail
    refine (within_at _ _ _ _).mono ?_
    rintro r w' ⟨rfl, rfl⟩
    rw [h1]
    go_wp2
    go_ret
    exact ⟨rfl, hb _⟩
  · cases h2 : wi e 1 8388608
    · go_enter Try.func37, Try.ntmps37
      go_wp2_with fail
      refine (within_at _ _ _ _).mono ?_
      rintro r w' ⟨rfl, rfl⟩
      rw [h1]
      go_wp2_with fail
      refine (within_at _ _ _ _).mono ?_
      rintro r w' ⟨rfl, rfl⟩
      rw [h2]
      go_wp2
      go_ret
      exact ⟨rfl, hb _⟩
    · cases h3 : wi q 1 549755813888
      · go_enter Try.func37, Try.ntmps37
        go_wp2_with fail
        refine (within_at _ _ _ _).mono ?_
        rintro r w' ⟨rfl, rfl⟩
        rw [h1]
        go_wp2_with fail
        refine (within_at _ _ _ _).mono ?_
        rintro r w' ⟨rfl, rfl⟩
        rw [h2]
        go_wp2_with fail
        refine (within_at _ _ _ _).mono ?_
        rintro r w' ⟨rfl, rfl⟩
        rw [h3]
        go_wp2
        go_ret
        exact ⟨rfl, hb _⟩
      · go_enter Try.func37, Try.ntmps37
        go_wp2_with fail
        refine (within_at _ _ _ _).mono ?_
        rintro r w' ⟨rfl, rfl⟩
        rw [h1]
        go_wp2_with fail
        refine (within_at _ _ _ _).mono ?_
        rintro r w' ⟨rfl, rfl⟩
        rw [h2]
        go_wp2_with fail
        refine (within_at _ _ _ _).mono ?_
        rintro r w' ⟨rfl, rfl⟩
        rw [h3]
        go_wp2_with fail
        refine (within_at _ _ _ _).mono ?_
        rintro r w' ⟨rfl, rfl⟩
        go_wp2
        go_ret
        exact ⟨rfl, hb _⟩

theorem rightS_nat {b e q t : Int} (h : rightS b e q t = true) : (64 ≤ b ∧ b ≤ 512) ∧ (1 ≤ e ∧ e ≤ 8388608) ∧ (1 ≤ q ∧ q ≤ 549755813888) ∧ (0 ≤ t ∧ t ≤ 511) := by
  simpa [rightS, wi] using h

def letters : List UInt8 := [76, 69, 68, 71, 69, 82, 48, 49]
/-- the first k numbers behind the letters -/
def lead (vs : List Nat) : List UInt8 := letters ++ vs.flatMap (toBE 8)
theorem lead_length (vs : List Nat) : (lead vs).length = 8 + 8 * vs.length := by
  induction vs with
  | nil => rfl
  | cons v l ih => simp [lead, toBE_length] at ih ⊢; omega
theorem lead_snoc (vs : List Nat) (v : Nat) : lead (vs ++ [v]) = lead vs ++ toBE 8 v := by simp [lead]
def headS (b e q t : Nat) : List UInt8 := lead [b, e, q, t] ++ toBE 4 (crc 0 (lead [b, e, q, t]))
theorem headS_length (b e q t : Nat) : (headS b e q t).length = 44 := by simp [headS, lead_length, toBE_length]
/-- so many noughts -/
def noughts (n : Nat) : List UInt8 := List.replicate n 0
theorem noughts_length (n : Nat) : (noughts n).length = n := List.length_replicate
def superB (b e q t : Nat) : List UInt8 := headS b e q t ++ noughts 4052
theorem superB_length (b e q t : Nat) : (superB b e q t).length = 4096 := by rw [superB, List.length_append, headS_length, noughts_length]

theorem cell_new (w : World) (cs : Array Value) (t : TypeId) (fr : Nat × Nat) (j : Nat) : (w.alloc (.cells cs t fr)).cell? ⟨w.heap.size, j, none⟩ = cs[j]? := cell_of_row _ w.heap.size j cs t fr (heap_alloc_new w _)

/-- the world behind the letters and the four numbers -/
theorem headWorld (b e q t : Nat) (w W : World) (hW : W = (((w.alloc (.cells #[.int .i64 b, .int .i64 e, .int .i64 q, .int .i64 t] 27)).alloc (.cells #[.int .u8 76, .int .u8 69, .int .u8 68, .int .u8 71, .int .u8 69, .int .u8 82, .int .u8 48, .int .u8 49] 5 (8, 9))).alloc (.cells #[.int .i64 b, .int .i64 e, .int .i64 q, .int .i64 t] 3))) :
    Rd W (some ⟨w.heap.size + 1, 0, none⟩) letters ∧ (W.cell? ⟨w.heap.size + 1 + 1, 0, none⟩ = some (.int .i64 b) ∧ W.cell? ⟨w.heap.size + 1 + 1, 1, none⟩ = some (.int .i64 e) ∧ W.cell? ⟨w.heap.size + 1 + 1, 2, none⟩ = some (.int .i64 q) ∧ W.cell? ⟨w.heap.size + 1 + 1, 3, none⟩ = some (.int .i64 t)) ∧ Below w.heap.size w W ∧ W.heap.size = w.heap.size + 3 := by
  obtain ⟨w1, h1⟩ : ∃ w1, w1 = w.alloc (.cells #[.int .i64 b, .int .i64 e, .int .i64 q, .int .i64 t] 27) := ⟨_, rfl⟩
  obtain ⟨w2, h2⟩ : ∃ w2, w2 = w1.alloc (.cells #[.int .u8 76, .int .u8 69, .int .u8 68, .int .u8 71, .int .u8 69, .int .u8 82, .int .u8 48, .int .u8 49] 5 (8, 9)) := ⟨_, rfl⟩
  rw [← h1, ← h2] at hW
  have s1 : w1.heap.size = w.heap.size + 1 := by rw [h1]; simp
  have s2 : w2.heap.size = w.heap.size + 1 + 1 := by rw [h2]; simp [s1]
  have b1 : Below w.heap.size w w1 := by rw [h1]; exact (Below.refl _ _).alloc (Nat.le_refl _) _
  have b2 : Below w1.heap.size w1 w2 := by rw [h2]; exact (Below.refl _ _).alloc (Nat.le_refl _) _
  have b3 : Below w2.heap.size w2 W := by rw [hW]; exact (Below.refl _ _).alloc (Nat.le_refl _) _
  refine ⟨?_, ?_, b1.trans ((b2.mono b1.size).trans (b3.mono (Nat.le_trans b1.size b2.size))), by rw [hW]; simp [s2]⟩
  · have h := rd_marked w1 (8, 9) letters
    have e1 : (bcs letters).toArray = #[.int .u8 76, .int .u8 69, .int .u8 68, .int .u8 71, .int .u8 69, .int .u8 82, .int .u8 48, .int .u8 49] := rfl
    rw [e1, ← h2, s1] at h
    exact h.below b3 (Nat.le_refl _)
  · have h := cell_new w2 #[.int .i64 b, .int .i64 e, .int .i64 q, .int .i64 t] 3 (0, 0)
    rw [← hW, s2] at h
    exact ⟨h 0, h 1, h 2, h 3⟩

set_option maxRecDepth 100000 in
set_option maxHeartbeats 1000000 in
theorem superHead_at (b e q t : Nat) (w : World) (hb : b < 9223372036854775808) (he : e < 9223372036854775808) (hq : q < 9223372036854775808) (ht : t < 9223372036854775808) :
    Calls Try.prog 39 #[.agg #[.int .i64 b, .int .i64 e, .int .i64 q, .int .i64 t]] w fun r w' => ∃ g, r = .returned (.slice (some ⟨g, 0, none⟩) 44 44) ∧ w.heap.size ≤ g ∧ Own w' g (headS b e q t) ∧ Below w.heap.size w w' := by
  obtain ⟨L0, hL0⟩ : ∃ L, L = letters := ⟨_, rfl⟩
  obtain ⟨L1, hL1⟩ : ∃ L, L = L0 ++ toBE 8 b := ⟨_, rfl⟩
  obtain ⟨L2, hL2⟩ : ∃ L, L = L1 ++ toBE 8 e := ⟨_, rfl⟩
  obtain ⟨L3, hL3⟩ : ∃ L, L = L2 ++ toBE 8 q := ⟨_, rfl⟩
  obtain ⟨L4, hL4⟩ : ∃ L, L = L3 ++ toBE 8 t := ⟨_, rfl⟩
  have N0 : Hid (L0.length = 8) := by rw [hL0]; exact rfl
  have N1 : Hid (L1.length = 16) := by rw [hL1, List.length_append, toBE_length, N0.out]; exact rfl
  have N2 : Hid (L2.length = 24) := by rw [hL2, List.length_append, toBE_length, N1.out]; exact rfl
  have N3 : Hid (L3.length = 32) := by rw [hL3, List.length_append, toBE_length, N2.out]; exact rfl
  have N4 : Hid (L4.length = 40) := by rw [hL4, List.length_append, toBE_length, N3.out]; exact rfl
  have E4 : Hid (lead [b, e, q, t] = L4) := by show _ = _; rw [hL4, hL3, hL2, hL1, hL0]; simp [lead]
  have U0 : Hid _ := hL0
  have U1 : Hid _ := hL1
  have U2 : Hid _ := hL2
  have U3 : Hid _ := hL3
  have U4 : Hid _ := hL4
  clear hL0 hL1 hL2 hL3 hL4
  have kc := Lib.run_convert_bytes_const (P := Try.prog) (w.alloc (.cells #[.int .i64 b, .int .i64 e, .int .i64 q, .int .i64 t] 27)) 22 5 #[.int .u8 76, .int .u8 69, .int .u8 68, .int .u8 71, .int .u8 69, .int .u8 82, .int .u8 48, .int .u8 49] 8 8 Try.underlying22 Try.underlying5
  have sz : (w.alloc (.cells #[.int .i64 b, .int .i64 e, .int .i64 q, .int .i64 t] 27)).heap.size = w.heap.size + 1 := by simp
  rw [sz] at kc
  go_enter Try.func39, Try.ntmps39
  go_wp2_with fail
  refine wp_loop_rounds 5 ?_
  rw [rounds_succ]
  go_wp2_with fail
  clear kc sz
  obtain ⟨W, hW⟩ : ∃ W, W = (((w.alloc (.cells #[.int .i64 b, .int .i64 e, .int .i64 q, .int .i64 t] 27)).alloc (.cells #[.int .u8 76, .int .u8 69, .int .u8 68, .int .u8 71, .int .u8 69, .int .u8 82, .int .u8 48, .int .u8 49] 5 (8, 9))).alloc (.cells #[.int .i64 b, .int .i64 e, .int .i64 q, .int .i64 t] 3)) := ⟨_, rfl⟩
  rw [← hW]
  obtain ⟨hr, ⟨c0, c1, c2, c3⟩, hB, hs⟩ := headWorld b e q t w W hW
  rw [← U0.out] at hr
  clear hW
  refine (add64_at W.heap.size _ 8 _ L0 b _ W rfl rfl N0.out (by omega) (by omega) hr).mono ?_
  rintro r w1 ⟨rfl, o1, b1⟩
  rw [← U1.out] at o1
  have B1 := hB.trans (b1.mono hB.size)
  have d1 := (b1.cell (p := ⟨w.heap.size + 1 + 1, 1, none⟩) (by simp; omega)).trans c1
  have d2 := (b1.cell (p := ⟨w.heap.size + 1 + 1, 2, none⟩) (by simp; omega)).trans c2
  have d3 := (b1.cell (p := ⟨w.heap.size + 1 + 1, 3, none⟩) (by simp; omega)).trans c3
  have s1 := b1.size
  have s0 : w.heap.size + 3 ≤ W.heap.size := by omega
  clear c0 c1 c2 c3 hr b1 hB hs
  go_wp2_with fail
  rw [rounds_succ]
  go_wp2_with fail
  refine (add64_at w1.heap.size _ 16 _ L1 e _ w1 rfl rfl N1.out (by omega) (by omega) o1.rd).mono ?_
  rintro r w2 ⟨rfl, o2, b2⟩
  rw [← U2.out] at o2
  have B2 := B1.trans (b2.mono B1.size)
  have e2 := (b2.cell (p := ⟨w.heap.size + 1 + 1, 2, none⟩) (by simp; omega)).trans d2
  have e3 := (b2.cell (p := ⟨w.heap.size + 1 + 1, 3, none⟩) (by simp; omega)).trans d3
  have s2 := b2.size
  clear d1 d2 d3 o1 b2 B1
  go_wp2_with fail
  rw [rounds_succ]
  go_wp2_with fail
  refine (add64_at w2.heap.size _ 24 _ L2 q _ w2 rfl rfl N2.out (by omega) (by omega) o2.rd).mono ?_
  rintro r w3 ⟨rfl, o3, b3⟩
  rw [← U3.out] at o3
  have B3 := B2.trans (b3.mono B2.size)
  have f3 := (b3.cell (p := ⟨w.heap.size + 1 + 1, 3, none⟩) (by simp; omega)).trans e3
  have s3 := b3.size
  clear e2 e3 o2 b3 B2
  go_wp2_with fail
  rw [rounds_succ]
  go_wp2_with fail
  refine (add64_at w3.heap.size _ 32 _ L3 t _ w3 rfl rfl N3.out (by omega) (by omega) o3.rd).mono ?_
  rintro r w4 ⟨rfl, o4, b4⟩
  rw [← U4.out] at o4
  have B4 := B3.trans (b4.mono B3.size)
  have s4 := b4.size
  have hl4 : w3.heap.size < w4.heap.size := o4.lt
  clear f3 o3 b4 B3
  go_wp2_with fail
  rw [rounds_succ]
  go_wp2_with fail
  refine (crc_at 40 40 _ L4 w4 N4.out (by omega) o4.rd).mono ?_
  rintro r w5 ⟨rfl, b5⟩
  have B5 := B4.trans (b5.mono B4.size)
  have o5 := o4.below b5 hl4
  have s5 := b5.size
  have hcl := crc_lt 0 L4
  obtain ⟨C, hC⟩ : ∃ C, C = crc 0 L4 := ⟨_, rfl⟩
  rw [← hC] at hcl ⊢
  have HC : Hid _ := hC
  clear B4 b5 o4 hC
  go_wp2_with fail
  refine (add32_at w5.heap.size _ 40 _ L4 C _ w5 rfl rfl N4.out hcl (by omega) o5.rd).mono ?_
  rintro r w6 ⟨rfl, o6, b6⟩
  have B6 := B5.trans (b6.mono B5.size)
  clear o5 b6 B5
  go_wp2
  go_ret
  refine ⟨w5.heap.size, rfl, by omega, ?_, B6⟩
  unfold headS
  rw [E4.out, ← HC.out]
  exact o6

/-- what a Put answers -/
def erP (o : Option (List UInt8)) : Int := if o.isSome then 0 else 2
def Puts (w w' : World) (o : Option (List UInt8)) (r : Ending) : Prop := ∃ v, r = .returned (.tuple #[v, .int .i64 (erP o)]) ∧ w'.ownsRow w.heap.size 5 1 v (o.getD []).length (bcs (o.getD [])) ∧ Below w.heap.size w w'

theorem Own.owns {w : World} {g B n : Nat} {ys : List UInt8} (h : Own w g ys) (hg : B ≤ g) (hn : ys.length = n) (hm : n ≤ 281474976710656) : w.ownsRow B 5 1 (.slice (some ⟨g, 0, none⟩) n n) n (bcs ys) := by
  subst hn
  refine ⟨by rw [bcs_length]; omega, .inr ⟨g, ys.length, (bcs ys).toArray, rfl, hg, h, Nat.le_refl _, by unfold maxLen; omega, by simp [bcs_length], ?_⟩⟩
  rw [List.take_of_length_le (by simp [bcs_length])]

def putSuper (b e q t : Int) : Option (List UInt8) := if rightS b e q t then some (superB b.toNat e.toNat q.toNat t.toNat) else none

set_option maxRecDepth 100000 in
theorem putSuper_at (b e q t : Int) (w : World) : Calls Try.prog 9 #[.agg #[.int .i64 b, .int .i64 e, .int .i64 q, .int .i64 t]] w fun r w' => Puts w w' (putSuper b e q t) r := by
  have hb0 := fun o => (Below.refl w.heap.size w).alloc (Nat.le_refl _) o
  unfold putSuper
  cases h : rightS b e q t
  · go_enter Try.func9, Try.ntmps9
    go_wp2_with fail
    refine (rightSuper_at b e q t _).mono ?_
    rintro r w1 ⟨rfl, b1⟩
    rw [h]
    have B1 := (hb0 _).trans (b1.mono (hb0 _).size)
    go_wp2
    go_ret2
    exact ⟨_, rfl, World.ownsRow_nil _ _ _ _, B1⟩
  · obtain ⟨hb, he, hq, ht⟩ := rightS_nat h
    obtain ⟨b, rfl⟩ := Int.eq_ofNat_of_zero_le (show 0 ≤ b by omega)
    obtain ⟨e, rfl⟩ := Int.eq_ofNat_of_zero_le (show 0 ≤ e by omega)
    obtain ⟨q, rfl⟩ := Int.eq_ofNat_of_zero_le (show 0 ≤ q by omega)
    obtain ⟨t, rfl⟩ := Int.eq_ofNat_of_zero_le (show 0 ≤ t by omega)
    have B0 := hb0 (.cells #[.int .i64 b, .int .i64 e, .int .i64 q, .int .i64 t] 27)
    have sz : (w.alloc (.cells #[.int .i64 b, .int .i64 e, .int .i64 q, .int .i64 t] 27)).heap.size = w.heap.size + 1 := by simp
    have hc := cell_new w #[.int .i64 b, .int .i64 e, .int .i64 q, .int .i64 t] 27 (0, 0)
    have c0 := hc 0
    have c1 := hc 1
    have c2 := hc 2
    have c3 := hc 3
    clear hc
    go_enter Try.func9, Try.ntmps9
    go_wp2_with fail
    refine (rightSuper_at b e q t _).mono ?_
    rintro r w1 ⟨rfl, b1⟩
    rw [h]
    have B1 := B0.trans (b1.mono B0.size)
    have d0 := (b1.cell (p := ⟨w.heap.size, 0, none⟩) (by simp)).trans c0
    have d1 := (b1.cell (p := ⟨w.heap.size, 1, none⟩) (by simp)).trans c1
    have d2 := (b1.cell (p := ⟨w.heap.size, 2, none⟩) (by simp)).trans c2
    have d3 := (b1.cell (p := ⟨w.heap.size, 3, none⟩) (by simp)).trans c3
    simp only [List.getElem?_toArray, List.getElem?_cons_zero, List.getElem?_cons_succ] at d0 d1 d2 d3
    clear c0 c1 c2 c3 sz b1 B0 hb0
    go_wp2_with fail
    refine (superHead_at b e q t w1 (by omega) (by omega) (by omega) (by omega)).mono ?_
    rintro r w2 ⟨g, rfl, hg, o2, b2⟩
    have B2 := B1.trans (b2.mono B1.size)
    clear d0 d1 d2 d3 b2
    go_wp2_with fail
    refine (padded_at w2.heap.size _ 44 4096 _ (headS b e q t) _ w2 rfl rfl (headS_length _ _ _ _) (by omega) (by omega) o2.rd).mono ?_
    rintro r w3 ⟨rfl, o3, b3⟩
    have B3 := B2.trans (b3.mono B2.size)
    have hsz := B2.size
    have o3' : Own w3 w2.heap.size (superB b e q t) := o3
    clear o3 b3
    go_wp2
    go_ret2
    refine ⟨_, rfl, ?_, B3⟩
    have h4 := o3'.owns hsz (superB_length _ _ _ _) (by omega)
    simpa [superB_length] using h4
end Go.Proofs.Ytmhplpiglbamcaa
