/-
  RingPlaces: the stage's theorem.
-/
import Derived.Test.YtoopdooepnojhaaLine
import Derived.Deep.Cut
namespace Go.Proofs.Ytoopdooepnojhaa
open Go.RowKit

theorem pick_ex (x : Int) (n : Nat) (h0 : 0 < n) (hn : n ≤ 2000000) :
    ∃ p : Nat, p < n ∧ ∀ w, Calls Try.prog 21 #[.int .i64 x, .int .i64 n] w fun e w' => e = .returned (.int .i64 p) ∧ w = w' := by
  have h1 : x.tmod n < n := Int.tmod_lt_of_pos x (by omega)
  have h2 : -(n : Int) < x.tmod n := Int.lt_tmod_of_pos x (by omega)
  obtain ⟨y, hy⟩ : ∃ y, x.tmod n = y := ⟨_, rfl⟩
  rw [hy] at h1 h2
  by_cases h : y < 0
  · refine ⟨(y + n).toNat, by omega, fun w => ?_⟩
    have e : ((y + n).toNat : Int) = y + n := by omega
    rw [e]
    clear e
    go_enter Try.func21, Try.ntmps21
    go_wp2
    go_ret
    exact ⟨rfl, rfl⟩
  · refine ⟨y.toNat, by omega, fun w => ?_⟩
    have e : (y.toNat : Int) = y := by omega
    rw [e]
    clear e
    go_enter Try.func21, Try.ntmps21
    go_wp2
    go_ret
    exact ⟨rfl, rfl⟩

/-- the taken places, in order -/
def lineOK (S T : Int) (xs : List Int) : Prop := ∀ j (h : j < xs.length), xs[j] = (T + j) % S
theorem lineOK.drop {S T : Int} {xs : List Int} (h : lineOK S T xs) (k : Nat) : lineOK S ((T + k) % S) (xs.drop k) := fun j hj => by
  simp at hj
  rw [List.getElem_drop, h (k + j) (by omega), Int.emod_add_emod]
  congr 1
  omega
theorem lineOK.snoc {S T : Int} {xs : List Int} (h : lineOK S T xs) (x : Int) (hx : x = (T + xs.length) % S) : lineOK S T (xs ++ [x]) := fun j hj => by
  by_cases hjn : j < xs.length
  · rw [List.getElem_append_left hjn]
    exact h j hjn
  · have e : j = xs.length := by simp at hj; omega
    subst e
    rw [List.getElem_concat_length rfl, hx]
theorem unlike (T S i j : Int) (h0 : i < j) (h1 : j - i < S) : (T + i) % S ≠ (T + j) % S := fun e => by
  have h := Int.emod_emod_of_dvd (j - i) (Int.dvd_refl S)
  have d : (T + j - (T + i)) % S = 0 := by rw [Int.sub_emod, e]; simp
  rw [show T + j - (T + i) = j - i by omega, Int.emod_eq_of_lt (by omega) h1] at d
  omega
theorem place_at (T U j S : Int) : ((T + U) % S + j) % S = (T + (U + j)) % S := by
  rw [Int.emod_add_emod]
  congr 1
  omega
theorem fr_in {S T U H : Int} (h : R S T U H) : fr S T U H = S - U - H := by rw [fr, if_pos h]

/-- what stands at the head of a round -/
def PRel (w : World) (g7 S : Nat) (v8 v9 v10 : Value) (wr : World) : Prop :=
  ∃ (ki : Nat) (T H : Int) (xs : List Int), ki ≤ 100 ∧ v10 = .int .i64 (ki : Int) ∧ v9 = .int .i64 H ∧ R S T xs.length H ∧ lineOK S T xs ∧ Line w.heap.size wr v8 xs ∧ Box wr g7 #[.int .i64 (S : Int), .int .i64 T, .int .i64 (xs.length : Int), .int .i64 H] 23 ∧ Below w.heap.size w wr

set_option maxRecDepth 100000 in
set_option maxHeartbeats 8000000 in
theorem places_at (x y : Int) (a : Option Addr) (n cap : Nat) (zs : List Int) (w : World) (hl : zs.length = n) (_hn : n ≤ 9223372036854775807) (hr : RdI w a zs) :
    Calls Try.prog 5 #[.int .i64 x, .int .i64 y, .slice a n cap] w fun r w' => r = .returned (.bool true) ∧ Below w.heap.size w w' := by
  obtain ⟨p0, hp0, pk0⟩ := pick_ex x 40 (by decide) (by decide)
  obtain ⟨S, hS⟩ : ∃ S, S = 1 + p0 := ⟨_, rfl⟩
  have hS' : (1 : Int) + p0 = S := by omega
  have hS1 : 1 ≤ S := by omega
  have hS40 : S ≤ 40 := by omega
  obtain ⟨T0, hT0, pk1⟩ := pick_ex y S (by omega) (by omega)
  have HL : Hid _ := hl
  have HR : Hid _ := hr
  clear hS hl hr hp0
  go_enter Try.func5, Try.ntmps5
  go_wp2_with fail
  refine (pk0 _).mono ?_
  rintro r u0 ⟨rfl, rfl⟩
  clear pk0
  go_wp2_with fail
  refine (pk1 _).mono ?_
  rintro r u0 ⟨rfl, rfl⟩
  clear pk1 hS'
  have xr := Box.new w #[.int .i64 (S : Int), .int .i64 (T0 : Int), .int .i64 0, .int .i64 0] 23
  have B := (Below.refl w.heap.size w).alloc (Nat.le_refl _) (.cells #[.int .i64 (S : Int), .int .i64 (T0 : Int), .int .i64 0, .int .i64 0] 23)
  go_wp2_with fail
  obtain ⟨g7, hg7e⟩ : ∃ g, g = w.heap.size := ⟨_, rfl⟩
  rw [← hg7e] at xr
  have hg7 : Hid (w.heap.size ≤ g7) := by rw [hg7e]; exact Nat.le_refl _
  have hst : PRel w g7 S (.slice none 0 0) (.int .i64 0) (.int .i64 0) (w.alloc (.cells #[.int .i64 (S : Int), .int .i64 (T0 : Int), .int .i64 0, .int .i64 0] 23)) :=
    ⟨0, T0, 0, [], by omega, rfl, rfl, by unfold R; simp; omega, fun j h => by simp at h, .inl ⟨rfl, rfl⟩, xr, B⟩
  rw [← hg7e]
  clear xr B hg7e
  go_loopw [8, 9, 10] (fun v8 v9 v10 wr => PRel w g7 S v8 v9 v10 wr) (fun _ _ i _ => 100 - (intOf i).toNat)
  case atStart => exact hst
  case round =>
    clear hst hT0
    obtain ⟨ki, T, H, xs, hki, rfl, rfl, hR, hlok, ln, xr, B⟩ := hrel
    obtain ⟨a8, c8, rfl⟩ := ln.val
    have hR' : Hid (R (S : Int) T xs.length H) := hR
    have HLK : Hid (lineOK (S : Int) T xs) := hlok
    obtain ⟨⟨q1, q2⟩, ⟨q3, q4⟩, ⟨q5, q6⟩, q7, q8⟩ := hR
    clear hlok
    by_cases hlt : ki < n ∧ ki < 100
    · obtain ⟨hlt, hlt2⟩ := hlt
      have hkz : ki < zs.length := by rw [HL.out]; exact hlt
      obtain ⟨bz, oz, rfl, hcz⟩ := HR.out (by omega)
      have cz := hcz ki hkz
      have blt : bz < w.heap.size := block_lt_of_cell cz
      have cz' : wr.cell? ⟨bz, oz + ki, none⟩ = some (.int .i64 zs[ki]) := by rw [B.cell (p := ⟨bz, oz + ki, none⟩) blt]; exact cz
      generalize (zs[ki]'hkz) = z at cz'
      clear cz hcz hkz blt
      obtain ⟨p, hp, pk⟩ := pick_ex z 1000003 (by decide) (by decide)
      go_wp2_with fail
      refine (pk _).mono ?_
      rintro r u1 ⟨rfl, rfl⟩
      clear pk cz'
      have xs1 := Box.new wr #[.int .i64 0, .int .i64 0, .int .i64 0, .int .i64 0] 23
      have hgs : Hid (g7 < wr.heap.size) := xr.lt
      replace xr := xr.alloc (.cells #[.int .i64 0, .int .i64 0, .int .i64 0, .int .i64 0] 23)
      replace ln := ln.below ((Below.refl _ _).alloc (Nat.le_refl _) (.cells #[.int .i64 0, .int .i64 0, .int .i64 0, .int .i64 0] 23))
      replace B := B.alloc B.size (.cells #[.int .i64 0, .int .i64 0, .int .i64 0, .int .i64 0] 23)
      obtain ⟨gs, hgse⟩ : ∃ g, g = wr.heap.size := ⟨_, rfl⟩
      obtain ⟨v2, hv2⟩ : ∃ u, u = wr.alloc (.cells #[.int .i64 0, .int .i64 0, .int .i64 0, .int .i64 0] 23) := ⟨_, rfl⟩
      rw [← hgse] at xs1 hgs
      rw [← hv2] at xs1 xr ln B
      have Hgse : Hid _ := hgse
      have Hv2 : Hid _ := hv2
      clear hgse hv2
      go_upto_region 33 with fail
      rw [← Hgse.out, ← Hv2.out]
      have hM0 : (0 : Int) ≤ (p : Int) % 4 ∧ (p : Int) % 4 ≤ 3 := by omega
      have hK0 : (0 : Int) ≤ (p : Int) / 4 % ((S : Int) + 1) := Int.emod_nonneg _ (by omega)
      have hK1 : (p : Int) / 4 % ((S : Int) + 1) < (S : Int) + 1 := Int.emod_lt_of_pos _ (by omega)
      generalize (p : Int) / 4 % ((S : Int) + 1) = Kz at hK0 hK1 ⊢
      generalize hMp : (p : Int) % 4 = M at hM0 ⊢
      obtain ⟨K, rfl⟩ : ∃ K : Nat, Kz = K := ⟨Kz.toNat, by omega⟩
      clear hp Hgse Hv2 hK0
      have hcase : M = 0 ∨ M = 1 ∨ M = 2 ∨ M = 3 := by omega
      clear hM0
      rcases hcase with rfl | rfl | rfl | rfl
      · obtain ⟨c0, c1, c2, c3⟩ := xr.all4
        go_wp2_with fail
        by_cases hf : (K : Int) ≤ S - xs.length - H
        · as_aux_lemma =>
          have hRn : R (S : Int) T xs.length (H + K) := by unfold R; omega
          have HRn : Hid (R (S : Int) T xs.length (H + K)) := hRn
          clear hRn
          have cc := reserve_ok (S : Int) T xs.length H K v2 hR'.out (by omega) (by rw [fr_in hR'.out]; exact hf)
          unfold ri at cc
          refine cc.mono ?_
          rintro r v3 ⟨rfl, b⟩
          clear cc c0 c1 c2 c3
          replace xr := xr.below b
          replace xs1 := xs1.below b
          replace ln := ln.below b
          replace B := keep B b
          clear b
          have z1 := xs1.store4 (u0 := .int .i64 (S : Int)) (u1 := .int .i64 T) (u2 := .int .i64 (xs.length : Int)) (u3 := .int .i64 (H + K))
          have z2 := xr.other4 (k := gs) (.int .i64 (S : Int)) (.int .i64 T) (.int .i64 (xs.length : Int)) (.int .i64 (H + K)) (Nat.ne_of_lt hgs.out)
          have z3 := ln.set4 xs1 (.int .i64 (S : Int)) (.int .i64 T) (.int .i64 (xs.length : Int)) (.int .i64 (H + K))
          have z4 := below4 B (show w.heap.size ≤ gs from Nat.le_of_lt (Nat.lt_of_le_of_lt hg7.out hgs.out)) (.int .i64 (S : Int)) (.int .i64 T) (.int .i64 (xs.length : Int)) (.int .i64 (H + K))
          unfold set4 at z1 z2 z3 z4
          obtain ⟨k0, k1, k2, k3⟩ := xs1.all4
          obtain ⟨l0, l1, l2, l3⟩ := xs1.fr4
          clear xs1 xr ln B
          obtain ⟨W1, hW1⟩ : ∃ u, u = ((((v3.setCell ⟨gs, 0, none⟩ (.int .i64 (S : Int))).setCell ⟨gs, 1, none⟩ (.int .i64 T)).setCell ⟨gs, 2, none⟩ (.int .i64 (xs.length : Int))).setCell ⟨gs, 3, none⟩ (.int .i64 (H + K))) := ⟨_, rfl⟩
          rw [← hW1] at z1 z2 z3 z4
          have xs1 := z1
          have xr := z2
          have ln := z3
          have B := z4
          have KW1 : Hid _ := hW1
          clear z1 z2 z3 z4 hW1
          go_upto_region 35 with fail
          rw [← KW1.out]
          clear k0 k1 k2 k3 l0 l1 l2 l3 KW1
          obtain ⟨m0, m1, m2, m3⟩ := xs1.all4
          go_upto_region 52 with fail
          have z1 := xr.store4 (u0 := .int .i64 (S : Int)) (u1 := .int .i64 T) (u2 := .int .i64 (xs.length : Int)) (u3 := .int .i64 (H + K))
          have z2 := xs1.other4 (k := g7) (.int .i64 (S : Int)) (.int .i64 T) (.int .i64 (xs.length : Int)) (.int .i64 (H + K)) (Nat.ne_of_gt hgs.out)
          have z3 := ln.set4 xr (.int .i64 (S : Int)) (.int .i64 T) (.int .i64 (xs.length : Int)) (.int .i64 (H + K))
          have z4 := below4 B hg7.out (.int .i64 (S : Int)) (.int .i64 T) (.int .i64 (xs.length : Int)) (.int .i64 (H + K))
          unfold set4 at z1 z2 z3 z4
          obtain ⟨k0, k1, k2, k3⟩ := xr.all4
          obtain ⟨l0, l1, l2, l3⟩ := xr.fr4
          clear xr xs1 ln B
          obtain ⟨W2, hW2⟩ : ∃ u, u = ((((W1.setCell ⟨g7, 0, none⟩ (.int .i64 (S : Int))).setCell ⟨g7, 1, none⟩ (.int .i64 T)).setCell ⟨g7, 2, none⟩ (.int .i64 (xs.length : Int))).setCell ⟨g7, 3, none⟩ (.int .i64 (H + K))) := ⟨_, rfl⟩
          rw [← hW2] at z1 z2 z3 z4
          have xr := z1
          have xs1 := z2
          have ln := z3
          have B := z4
          have KW2 : Hid _ := hW2
          clear z1 z2 z3 z4 hW2
          go_upto_region 53 with fail
          rw [← KW2.out]
          clear k0 k1 k2 k3 l0 l1 l2 l3 KW2
          clear m0 m1 m2 m3
          have cR := fun u => right_at (S : Int) T (xs.length : Int) (H + K) u
          rw [decide_eq_true HRn.out] at cR
          have cF := fun u => free_at (S : Int) T (xs.length : Int) (H + K) u
          rw [fr_in HRn.out] at cF
          have HcF : Hid _ := cF
          have HcR : Hid _ := cR
          clear cF cR
          unfold ri at HcR HcF
          obtain ⟨o0, o1, o2, o3⟩ := xr.all4
          go_wp2_with fail
          refine (HcR.out _).mono ?_
          rintro r v9 ⟨rfl, b⟩
          replace xr := xr.below b
          replace ln := ln.below b
          replace B := keep B b
          clear b xs1 HcR
          clear o0 o1 o2 o3
          obtain ⟨e0, e1, e2, e3⟩ := xr.all4
          go_wp2_with fail
          refine (HcF.out _).mono ?_
          rintro r v10 ⟨rfl, b⟩
          replace xr := xr.below b
          replace ln := ln.below b
          replace B := keep B b
          clear b e0 e1 e2 e3 HcF
          go_wp2_with fail
          go_roundw
          case rel => exact ⟨ki + 1, T, _, xs, by omega, by push_cast; rfl, rfl, HRn.out, HLK.out, ln, xr, B⟩
          case measure => simp [intOf]; omega
        · as_aux_lemma =>
          have HRn : Hid (R (S : Int) T xs.length H) := hR'.out
          have cc := reserve_no (S : Int) T xs.length H K 5 v2 (.inr ⟨⟨hR'.out, by omega, by rw [fr_in hR'.out]; exact hf⟩, rfl⟩)
          unfold ri at cc
          refine cc.mono ?_
          rintro r v3 ⟨rfl, b⟩
          clear cc c0 c1 c2 c3
          replace xr := xr.below b
          replace xs1 := xs1.below b
          replace ln := ln.below b
          replace B := keep B b
          clear b
          have z1 := xs1.store4 (u0 := .int .i64 0) (u1 := .int .i64 0) (u2 := .int .i64 0) (u3 := .int .i64 0)
          have z2 := xr.other4 (k := gs) (.int .i64 0) (.int .i64 0) (.int .i64 0) (.int .i64 0) (Nat.ne_of_lt hgs.out)
          have z3 := ln.set4 xs1 (.int .i64 0) (.int .i64 0) (.int .i64 0) (.int .i64 0)
          have z4 := below4 B (show w.heap.size ≤ gs from Nat.le_of_lt (Nat.lt_of_le_of_lt hg7.out hgs.out)) (.int .i64 0) (.int .i64 0) (.int .i64 0) (.int .i64 0)
          unfold set4 at z1 z2 z3 z4
          obtain ⟨k0, k1, k2, k3⟩ := xs1.all4
          obtain ⟨l0, l1, l2, l3⟩ := xs1.fr4
          clear xs1 xr ln B
          obtain ⟨W1, hW1⟩ : ∃ u, u = ((((v3.setCell ⟨gs, 0, none⟩ (.int .i64 0)).setCell ⟨gs, 1, none⟩ (.int .i64 0)).setCell ⟨gs, 2, none⟩ (.int .i64 0)).setCell ⟨gs, 3, none⟩ (.int .i64 0)) := ⟨_, rfl⟩
          rw [← hW1] at z1 z2 z3 z4
          have xs1 := z1
          have xr := z2
          have ln := z3
          have B := z4
          have KW1 : Hid _ := hW1
          clear z1 z2 z3 z4 hW1
          go_upto_region 35 with fail
          rw [← KW1.out]
          clear k0 k1 k2 k3 l0 l1 l2 l3 KW1
          have cR := fun u => right_at (S : Int) T (xs.length : Int) H u
          rw [decide_eq_true HRn.out] at cR
          have cF := fun u => free_at (S : Int) T (xs.length : Int) H u
          rw [fr_in HRn.out] at cF
          have HcF : Hid _ := cF
          have HcR : Hid _ := cR
          clear cF cR
          unfold ri at HcR HcF
          obtain ⟨o0, o1, o2, o3⟩ := xr.all4
          go_wp2_with fail
          refine (HcR.out _).mono ?_
          rintro r v9 ⟨rfl, b⟩
          replace xr := xr.below b
          replace ln := ln.below b
          replace B := keep B b
          clear b xs1 HcR
          clear o0 o1 o2 o3
          obtain ⟨e0, e1, e2, e3⟩ := xr.all4
          go_wp2_with fail
          refine (HcF.out _).mono ?_
          rintro r v10 ⟨rfl, b⟩
          replace xr := xr.below b
          replace ln := ln.below b
          replace B := keep B b
          clear b e0 e1 e2 e3 HcF
          go_wp2_with fail
          go_roundw
          case rel => exact ⟨ki + 1, T, _, xs, by omega, by push_cast; rfl, rfl, HRn.out, HLK.out, ln, xr, B⟩
          case measure => simp [intOf]; omega
      · obtain ⟨c0, c1, c2, c3⟩ := xr.all4
        by_cases hk : K ≤ xs.length
        · as_aux_lemma =>
          go_wp2_with fail
          have hKE : Hid (K ≤ xs.length) := by show _ ≤ _; omega
          go_loopw [15] (fun v15 u => ∃ j : Nat, j ≤ K ∧ v15 = .int .i64 (j : Int) ∧ Box u g7 #[.int .i64 (S : Int), .int .i64 T, .int .i64 (xs.length : Int), .int .i64 H] 23 ∧ Box u gs #[.int .i64 0, .int .i64 0, .int .i64 0, .int .i64 0] 23 ∧ Line w.heap.size u (.slice a8 xs.length c8) xs ∧ Below w.heap.size w u) (fun v _ => K - (intOf v).toNat)
          case atStart => exact ⟨0, by omega, rfl, xr, xs1, ln, B⟩
          case round =>
            clear xr xs1 ln B c0 c1 c2 c3
            obtain ⟨j, hj, rfl, xr, xs1, ln, B⟩ := hrel
            obtain ⟨c0, c1, c2, c3⟩ := xr.all4
            by_cases hjk : j < K
            · have hjl : j < xs.length := Nat.lt_of_lt_of_le hjk hKE.out
              obtain ⟨g, o, cap9, e9, hc⟩ := ln.at hjl
              injection e9 with e9 _ e9'
              subst e9 e9'
              have cA := fun u => at_ok (S : Int) T xs.length H j u hR'.out (by omega) (by omega)
              rw [HLK.out j hjl] at hc
              generalize (T + (j : Int)) % (S : Int) = q at cA hc
              unfold ri at cA
              have HcA : Hid _ := cA
              have HC : Hid _ := hc
              clear cA hc
              go_wp2_with fail
              refine (HcA.out _).mono ?_
              rintro r v3 ⟨rfl, b⟩
              have hc : v3.cell? ⟨g, o + j, none⟩ = some (.int .i64 q) := (b.cell (p := ⟨g, o + j, none⟩) (block_lt_of_cell HC.out)).trans HC.out
              replace xr := xr.below b
              replace xs1 := xs1.below b
              replace ln := ln.below b
              replace B := keep B b
              clear b c0 c1 c2 c3 HcA HC
              go_wp2_with fail
              go_roundw
              case rel => exact ⟨j + 1, by omega, by push_cast; rfl, xr, xs1, ln, B⟩
              case measure => simp [intOf]; omega
            · have hje : j = K := by omega
              clear hj hjk
              rw [hje]
              clear hje
              obtain ⟨T2, hT2⟩ : ∃ t, t = (T + (K : Nat)) % (S : Int) := ⟨_, rfl⟩
              obtain ⟨ys, hys⟩ : ∃ ys, ys = xs.drop K := ⟨_, rfl⟩
              have hyl : ys.length = xs.length - K := by rw [hys]; simp
              have hT0 : 0 ≤ T2 := by rw [hT2]; exact Int.emod_nonneg _ (by omega)
              have hT1 : T2 < S := by rw [hT2]; exact Int.emod_lt_of_pos _ (by omega)
              have HLY : Hid (lineOK (S : Int) T2 ys) := by
                rw [hT2, hys]
                exact HLK.out.drop _
              have HRn : Hid (R (S : Int) T2 ys.length H) := by
                have := hKE.out
                show R _ _ _ _
                unfold R
                omega
              have cD := drop_ok (S : Int) T xs.length H ((K : Nat) : Int) wr hR'.out (by omega) (by have := hKE.out; omega)
              rw [← hT2, show (xs.length : Int) - ((K : Nat) : Int) = (ys.length : Int) by have := hKE.out; omega] at cD
              unfold ri at cD
              have HYL : Hid (xs.length - K = ys.length) := hyl.symm
              have HYS : Hid (ys = xs.drop K) := hys
              have hyb : (ys.length : Int) ≤ S := by omega
              clear hT2 hys hyl
              go_wp2_with fail
              refine cD.mono ?_
              rintro r v3 ⟨rfl, b⟩
              clear cD c0 c1 c2 c3
              replace xr := xr.below b
              replace xs1 := xs1.below b
              replace ln := ln.below b
              replace B := keep B b
              clear b
              have z1 := xs1.store4 (u0 := .int .i64 (S : Int)) (u1 := .int .i64 T2) (u2 := .int .i64 (ys.length : Int)) (u3 := .int .i64 H)
              have z2 := xr.other4 (k := gs) (.int .i64 (S : Int)) (.int .i64 T2) (.int .i64 (ys.length : Int)) (.int .i64 H) (Nat.ne_of_lt hgs.out)
              have z3 := ln.set4 xs1 (.int .i64 (S : Int)) (.int .i64 T2) (.int .i64 (ys.length : Int)) (.int .i64 H)
              have z4 := below4 B (show w.heap.size ≤ gs from Nat.le_of_lt (Nat.lt_of_le_of_lt hg7.out hgs.out)) (.int .i64 (S : Int)) (.int .i64 T2) (.int .i64 (ys.length : Int)) (.int .i64 H)
              unfold set4 at z1 z2 z3 z4
              obtain ⟨k0, k1, k2, k3⟩ := xs1.all4
              obtain ⟨l0, l1, l2, l3⟩ := xs1.fr4
              clear xs1 xr ln B
              obtain ⟨W1, hW1⟩ : ∃ u, u = ((((v3.setCell ⟨gs, 0, none⟩ (.int .i64 (S : Int))).setCell ⟨gs, 1, none⟩ (.int .i64 T2)).setCell ⟨gs, 2, none⟩ (.int .i64 (ys.length : Int))).setCell ⟨gs, 3, none⟩ (.int .i64 H)) := ⟨_, rfl⟩
              rw [← hW1] at z1 z2 z3 z4
              have xs1 := z1
              have xr := z2
              have ln := z3
              have B := z4
              have KW1 : Hid _ := hW1
              clear z1 z2 z3 z4 hW1
              go_upto_region 48 with fail
              rw [← KW1.out]
              clear k0 k1 k2 k3 l0 l1 l2 l3 KW1
              have hKE' : K ≤ xs.length := hKE.out
              cases a8 with
              | none =>
                have hnil : xs = [] ∧ c8 = 0 := by
                  rcases ln with ⟨e, e'⟩ | ⟨g, o, cp, cur, e, _⟩
                  · injection e with _ _ e
                    exact ⟨e', e⟩
                  · injection e with e
                    cases e
                obtain ⟨rfl, rfl⟩ := hnil
                have hK00 : K = 0 := by simpa using hKE'
                subst hK00
                have hyn : ys = [] := by rw [HYS.out]; simp
                subst hyn
                clear ln
                have ln : Line w.heap.size W1 (.slice none 0 0) [] := .inl ⟨rfl, rfl⟩
                go_upto_region 51 with fail
                obtain ⟨m0, m1, m2, m3⟩ := xs1.all4
                go_upto_region 52 with fail
                have z1 := xr.store4 (u0 := .int .i64 (S : Int)) (u1 := .int .i64 T2) (u2 := .int .i64 0) (u3 := .int .i64 H)
                have z2 := xs1.other4 (k := g7) (.int .i64 (S : Int)) (.int .i64 T2) (.int .i64 0) (.int .i64 H) (Nat.ne_of_gt hgs.out)
                have z3 := ln.set4 xr (.int .i64 (S : Int)) (.int .i64 T2) (.int .i64 0) (.int .i64 H)
                have z4 := below4 B hg7.out (.int .i64 (S : Int)) (.int .i64 T2) (.int .i64 0) (.int .i64 H)
                unfold set4 at z1 z2 z3 z4
                obtain ⟨k0, k1, k2, k3⟩ := xr.all4
                obtain ⟨l0, l1, l2, l3⟩ := xr.fr4
                clear xr xs1 ln B
                obtain ⟨W2, hW2⟩ : ∃ u, u = ((((W1.setCell ⟨g7, 0, none⟩ (.int .i64 (S : Int))).setCell ⟨g7, 1, none⟩ (.int .i64 T2)).setCell ⟨g7, 2, none⟩ (.int .i64 0)).setCell ⟨g7, 3, none⟩ (.int .i64 H)) := ⟨_, rfl⟩
                rw [← hW2] at z1 z2 z3 z4
                have xr := z1
                have xs1 := z2
                have ln := z3
                have B := z4
                have KW2 : Hid _ := hW2
                clear z1 z2 z3 z4 hW2
                go_upto_region 53 with fail
                rw [← KW2.out]
                clear k0 k1 k2 k3 l0 l1 l2 l3 KW2
                clear m0 m1 m2 m3
                have cR := fun u => right_at (S : Int) T2 0 H u
                rw [decide_eq_true (show R (S : Int) T2 0 H from HRn.out)] at cR
                have cF := fun u => free_at (S : Int) T2 0 H u
                rw [fr_in (show R (S : Int) T2 0 H from HRn.out)] at cF
                have HcF : Hid _ := cF
                have HcR : Hid _ := cR
                clear cF cR
                unfold ri at HcR HcF
                obtain ⟨o0, o1, o2, o3⟩ := xr.all4
                go_wp2_with fail
                refine (HcR.out _).mono ?_
                rintro r v9 ⟨rfl, b⟩
                replace xr := xr.below b
                replace ln := ln.below b
                replace B := keep B b
                clear b xs1 HcR
                clear o0 o1 o2 o3
                obtain ⟨e0, e1, e2, e3⟩ := xr.all4
                go_wp2_with fail
                refine (HcF.out _).mono ?_
                rintro r v10 ⟨rfl, b⟩
                replace xr := xr.below b
                replace ln := ln.below b
                replace B := keep B b
                clear b e0 e1 e2 e3 HcF
                go_wp2_with fail
                go_roundw
                case rel => exact ⟨ki + 1, T2, _, [], by omega, by push_cast; rfl, rfl, (show R (S : Int) T2 0 H from HRn.out), HLY.out, ln, xr, B⟩
                case measure => simp [intOf]; omega
              | some ad =>
                have hsp : ∃ g o, ad = ⟨g, o, none⟩ := by
                  rcases ln with ⟨e, e'⟩ | ⟨g, o, cp, cur, e, _⟩
                  · injection e with e
                    cases e
                  · injection e with e
                    injection e with e
                    exact ⟨g, o, e⟩
                obtain ⟨g, o, rfl⟩ := hsp
                have ln2 := ln.cut hKE'
                rw [← HYS.out] at ln2
                clear ln
                go_upto_region 51 with fail
                obtain ⟨o2, ho2⟩ : ∃ o2, (if c8 = K then some (⟨g, o, none⟩ : Addr) else some ⟨g, o + K, none⟩) = some ⟨g, o2, none⟩ := by
                  by_cases q : c8 = K
                  · exact ⟨o, if_pos q⟩
                  · exact ⟨_, if_neg q⟩
                rw [ho2] at ln2 ⊢
                clear ho2
                rw [HYL.out] at ln2
                rw [HYL.out]
                have ln := ln2
                clear ln2
                obtain ⟨m0, m1, m2, m3⟩ := xs1.all4
                go_upto_region 52 with fail
                have z1 := xr.store4 (u0 := .int .i64 (S : Int)) (u1 := .int .i64 T2) (u2 := .int .i64 (ys.length : Int)) (u3 := .int .i64 H)
                have z2 := xs1.other4 (k := g7) (.int .i64 (S : Int)) (.int .i64 T2) (.int .i64 (ys.length : Int)) (.int .i64 H) (Nat.ne_of_gt hgs.out)
                have z3 := ln.set4 xr (.int .i64 (S : Int)) (.int .i64 T2) (.int .i64 (ys.length : Int)) (.int .i64 H)
                have z4 := below4 B hg7.out (.int .i64 (S : Int)) (.int .i64 T2) (.int .i64 (ys.length : Int)) (.int .i64 H)
                unfold set4 at z1 z2 z3 z4
                obtain ⟨k0, k1, k2, k3⟩ := xr.all4
                obtain ⟨l0, l1, l2, l3⟩ := xr.fr4
                clear xr xs1 ln B
                obtain ⟨W2, hW2⟩ : ∃ u, u = ((((W1.setCell ⟨g7, 0, none⟩ (.int .i64 (S : Int))).setCell ⟨g7, 1, none⟩ (.int .i64 T2)).setCell ⟨g7, 2, none⟩ (.int .i64 (ys.length : Int))).setCell ⟨g7, 3, none⟩ (.int .i64 H)) := ⟨_, rfl⟩
                rw [← hW2] at z1 z2 z3 z4
                have xr := z1
                have xs1 := z2
                have ln := z3
                have B := z4
                have KW2 : Hid _ := hW2
                clear z1 z2 z3 z4 hW2
                go_upto_region 53 with fail
                rw [← KW2.out]
                clear k0 k1 k2 k3 l0 l1 l2 l3 KW2
                clear m0 m1 m2 m3
                have cR := fun u => right_at (S : Int) T2 (ys.length : Int) H u
                rw [decide_eq_true HRn.out] at cR
                have cF := fun u => free_at (S : Int) T2 (ys.length : Int) H u
                rw [fr_in HRn.out] at cF
                have HcF : Hid _ := cF
                have HcR : Hid _ := cR
                clear cF cR
                unfold ri at HcR HcF
                obtain ⟨o0, o1, o2, o3⟩ := xr.all4
                go_wp2_with fail
                refine (HcR.out _).mono ?_
                rintro r v9 ⟨rfl, b⟩
                replace xr := xr.below b
                replace ln := ln.below b
                replace B := keep B b
                clear b xs1 HcR
                clear o0 o1 o2 o3
                obtain ⟨e0, e1, e2, e3⟩ := xr.all4
                go_wp2_with fail
                refine (HcF.out _).mono ?_
                rintro r v10 ⟨rfl, b⟩
                replace xr := xr.below b
                replace ln := ln.below b
                replace B := keep B b
                clear b e0 e1 e2 e3 HcF
                go_wp2_with fail
                go_roundw
                case rel => exact ⟨ki + 1, T2, _, ys, by omega, by push_cast; rfl, rfl, HRn.out, HLY.out, ln, xr, B⟩
                case measure => simp [intOf]; omega
        · as_aux_lemma =>
          go_wp2_with fail
          have hKE : Hid (xs.length ≤ xs.length) := by show _ ≤ _; omega
          go_loopw [15] (fun v15 u => ∃ j : Nat, j ≤ xs.length ∧ v15 = .int .i64 (j : Int) ∧ Box u g7 #[.int .i64 (S : Int), .int .i64 T, .int .i64 (xs.length : Int), .int .i64 H] 23 ∧ Box u gs #[.int .i64 0, .int .i64 0, .int .i64 0, .int .i64 0] 23 ∧ Line w.heap.size u (.slice a8 xs.length c8) xs ∧ Below w.heap.size w u) (fun v _ => xs.length - (intOf v).toNat)
          case atStart => exact ⟨0, by omega, rfl, xr, xs1, ln, B⟩
          case round =>
            clear xr xs1 ln B c0 c1 c2 c3
            obtain ⟨j, hj, rfl, xr, xs1, ln, B⟩ := hrel
            obtain ⟨c0, c1, c2, c3⟩ := xr.all4
            by_cases hjk : j < xs.length
            · have hjl : j < xs.length := Nat.lt_of_lt_of_le hjk hKE.out
              obtain ⟨g, o, cap9, e9, hc⟩ := ln.at hjl
              injection e9 with e9 _ e9'
              subst e9 e9'
              have cA := fun u => at_ok (S : Int) T xs.length H j u hR'.out (by omega) (by omega)
              rw [HLK.out j hjl] at hc
              generalize (T + (j : Int)) % (S : Int) = q at cA hc
              unfold ri at cA
              have HcA : Hid _ := cA
              have HC : Hid _ := hc
              clear cA hc
              go_wp2_with fail
              refine (HcA.out _).mono ?_
              rintro r v3 ⟨rfl, b⟩
              have hc : v3.cell? ⟨g, o + j, none⟩ = some (.int .i64 q) := (b.cell (p := ⟨g, o + j, none⟩) (block_lt_of_cell HC.out)).trans HC.out
              replace xr := xr.below b
              replace xs1 := xs1.below b
              replace ln := ln.below b
              replace B := keep B b
              clear b c0 c1 c2 c3 HcA HC
              go_wp2_with fail
              go_roundw
              case rel => exact ⟨j + 1, by omega, by push_cast; rfl, xr, xs1, ln, B⟩
              case measure => simp [intOf]; omega
            · have hje : j = xs.length := by omega
              clear hj hjk
              rw [hje]
              clear hje
              obtain ⟨T2, hT2⟩ : ∃ t, t = (T + (xs.length : Nat)) % (S : Int) := ⟨_, rfl⟩
              obtain ⟨ys, hys⟩ : ∃ ys, ys = xs.drop xs.length := ⟨_, rfl⟩
              have hyl : ys.length = xs.length - xs.length := by rw [hys]; simp
              have hT0 : 0 ≤ T2 := by rw [hT2]; exact Int.emod_nonneg _ (by omega)
              have hT1 : T2 < S := by rw [hT2]; exact Int.emod_lt_of_pos _ (by omega)
              have HLY : Hid (lineOK (S : Int) T2 ys) := by
                rw [hT2, hys]
                exact HLK.out.drop _
              have HRn : Hid (R (S : Int) T2 ys.length H) := by
                have := hKE.out
                show R _ _ _ _
                unfold R
                omega
              have cD := drop_ok (S : Int) T xs.length H ((xs.length : Nat) : Int) wr hR'.out (by omega) (by have := hKE.out; omega)
              rw [← hT2, show (xs.length : Int) - ((xs.length : Nat) : Int) = (ys.length : Int) by have := hKE.out; omega] at cD
              unfold ri at cD
              have HYL : Hid (xs.length - xs.length = ys.length) := hyl.symm
              have HYS : Hid (ys = xs.drop xs.length) := hys
              have hyb : (ys.length : Int) ≤ S := by omega
              clear hT2 hys hyl
              go_wp2_with fail
              refine cD.mono ?_
              rintro r v3 ⟨rfl, b⟩
              clear cD c0 c1 c2 c3
              replace xr := xr.below b
              replace xs1 := xs1.below b
              replace ln := ln.below b
              replace B := keep B b
              clear b
              have z1 := xs1.store4 (u0 := .int .i64 (S : Int)) (u1 := .int .i64 T2) (u2 := .int .i64 (ys.length : Int)) (u3 := .int .i64 H)
              have z2 := xr.other4 (k := gs) (.int .i64 (S : Int)) (.int .i64 T2) (.int .i64 (ys.length : Int)) (.int .i64 H) (Nat.ne_of_lt hgs.out)
              have z3 := ln.set4 xs1 (.int .i64 (S : Int)) (.int .i64 T2) (.int .i64 (ys.length : Int)) (.int .i64 H)
              have z4 := below4 B (show w.heap.size ≤ gs from Nat.le_of_lt (Nat.lt_of_le_of_lt hg7.out hgs.out)) (.int .i64 (S : Int)) (.int .i64 T2) (.int .i64 (ys.length : Int)) (.int .i64 H)
              unfold set4 at z1 z2 z3 z4
              obtain ⟨k0, k1, k2, k3⟩ := xs1.all4
              obtain ⟨l0, l1, l2, l3⟩ := xs1.fr4
              clear xs1 xr ln B
              obtain ⟨W1, hW1⟩ : ∃ u, u = ((((v3.setCell ⟨gs, 0, none⟩ (.int .i64 (S : Int))).setCell ⟨gs, 1, none⟩ (.int .i64 T2)).setCell ⟨gs, 2, none⟩ (.int .i64 (ys.length : Int))).setCell ⟨gs, 3, none⟩ (.int .i64 H)) := ⟨_, rfl⟩
              rw [← hW1] at z1 z2 z3 z4
              have xs1 := z1
              have xr := z2
              have ln := z3
              have B := z4
              have KW1 : Hid _ := hW1
              clear z1 z2 z3 z4 hW1
              go_upto_region 48 with fail
              rw [← KW1.out]
              clear k0 k1 k2 k3 l0 l1 l2 l3 KW1
              have hKE' : xs.length ≤ xs.length := hKE.out
              cases a8 with
              | none =>
                have hnil : xs = [] ∧ c8 = 0 := by
                  rcases ln with ⟨e, e'⟩ | ⟨g, o, cp, cur, e, _⟩
                  · injection e with _ _ e
                    exact ⟨e', e⟩
                  · injection e with e
                    cases e
                obtain ⟨rfl, rfl⟩ := hnil
                have hyn : ys = [] := by rw [HYS.out]; simp
                subst hyn
                clear ln
                have ln : Line w.heap.size W1 (.slice none 0 0) [] := .inl ⟨rfl, rfl⟩
                go_upto_region 51 with fail
                obtain ⟨m0, m1, m2, m3⟩ := xs1.all4
                go_upto_region 52 with fail
                have z1 := xr.store4 (u0 := .int .i64 (S : Int)) (u1 := .int .i64 T2) (u2 := .int .i64 0) (u3 := .int .i64 H)
                have z2 := xs1.other4 (k := g7) (.int .i64 (S : Int)) (.int .i64 T2) (.int .i64 0) (.int .i64 H) (Nat.ne_of_gt hgs.out)
                have z3 := ln.set4 xr (.int .i64 (S : Int)) (.int .i64 T2) (.int .i64 0) (.int .i64 H)
                have z4 := below4 B hg7.out (.int .i64 (S : Int)) (.int .i64 T2) (.int .i64 0) (.int .i64 H)
                unfold set4 at z1 z2 z3 z4
                obtain ⟨k0, k1, k2, k3⟩ := xr.all4
                obtain ⟨l0, l1, l2, l3⟩ := xr.fr4
                clear xr xs1 ln B
                obtain ⟨W2, hW2⟩ : ∃ u, u = ((((W1.setCell ⟨g7, 0, none⟩ (.int .i64 (S : Int))).setCell ⟨g7, 1, none⟩ (.int .i64 T2)).setCell ⟨g7, 2, none⟩ (.int .i64 0)).setCell ⟨g7, 3, none⟩ (.int .i64 H)) := ⟨_, rfl⟩
                rw [← hW2] at z1 z2 z3 z4
                have xr := z1
                have xs1 := z2
                have ln := z3
                have B := z4
                have KW2 : Hid _ := hW2
                clear z1 z2 z3 z4 hW2
                go_upto_region 53 with fail
                rw [← KW2.out]
                clear k0 k1 k2 k3 l0 l1 l2 l3 KW2
                clear m0 m1 m2 m3
                have cR := fun u => right_at (S : Int) T2 0 H u
                rw [decide_eq_true (show R (S : Int) T2 0 H from HRn.out)] at cR
                have cF := fun u => free_at (S : Int) T2 0 H u
                rw [fr_in (show R (S : Int) T2 0 H from HRn.out)] at cF
                have HcF : Hid _ := cF
                have HcR : Hid _ := cR
                clear cF cR
                unfold ri at HcR HcF
                obtain ⟨o0, o1, o2, o3⟩ := xr.all4
                go_wp2_with fail
                refine (HcR.out _).mono ?_
                rintro r v9 ⟨rfl, b⟩
                replace xr := xr.below b
                replace ln := ln.below b
                replace B := keep B b
                clear b xs1 HcR
                clear o0 o1 o2 o3
                obtain ⟨e0, e1, e2, e3⟩ := xr.all4
                go_wp2_with fail
                refine (HcF.out _).mono ?_
                rintro r v10 ⟨rfl, b⟩
                replace xr := xr.below b
                replace ln := ln.below b
                replace B := keep B b
                clear b e0 e1 e2 e3 HcF
                go_wp2_with fail
                go_roundw
                case rel => exact ⟨ki + 1, T2, _, [], by omega, by push_cast; rfl, rfl, (show R (S : Int) T2 0 H from HRn.out), HLY.out, ln, xr, B⟩
                case measure => simp [intOf]; omega
              | some ad =>
                have hsp : ∃ g o, ad = ⟨g, o, none⟩ := by
                  rcases ln with ⟨e, e'⟩ | ⟨g, o, cp, cur, e, _⟩
                  · injection e with e
                    cases e
                  · injection e with e
                    injection e with e
                    exact ⟨g, o, e⟩
                obtain ⟨g, o, rfl⟩ := hsp
                have ln2 := ln.cut hKE'
                rw [← HYS.out] at ln2
                clear ln
                go_upto_region 51 with fail
                obtain ⟨o2, ho2⟩ : ∃ o2, (if c8 = xs.length then some (⟨g, o, none⟩ : Addr) else some ⟨g, o + xs.length, none⟩) = some ⟨g, o2, none⟩ := by
                  by_cases q : c8 = xs.length
                  · exact ⟨o, if_pos q⟩
                  · exact ⟨_, if_neg q⟩
                rw [ho2] at ln2 ⊢
                clear ho2
                have hyn : ys = [] := by rw [HYS.out]; simp
                subst hyn
                have ln : Line w.heap.size W1 (.slice (some ⟨g, o2, none⟩) 0 (c8 - xs.length)) [] := by
                  rw [Nat.sub_self] at ln2
                  exact ln2
                clear ln2
                obtain ⟨m0, m1, m2, m3⟩ := xs1.all4
                go_upto_region 52 with fail
                have z1 := xr.store4 (u0 := .int .i64 (S : Int)) (u1 := .int .i64 T2) (u2 := .int .i64 0) (u3 := .int .i64 H)
                have z2 := xs1.other4 (k := g7) (.int .i64 (S : Int)) (.int .i64 T2) (.int .i64 0) (.int .i64 H) (Nat.ne_of_gt hgs.out)
                have z3 := ln.set4 xr (.int .i64 (S : Int)) (.int .i64 T2) (.int .i64 0) (.int .i64 H)
                have z4 := below4 B hg7.out (.int .i64 (S : Int)) (.int .i64 T2) (.int .i64 0) (.int .i64 H)
                unfold set4 at z1 z2 z3 z4
                obtain ⟨k0, k1, k2, k3⟩ := xr.all4
                obtain ⟨l0, l1, l2, l3⟩ := xr.fr4
                clear xr xs1 ln B
                obtain ⟨W2, hW2⟩ : ∃ u, u = ((((W1.setCell ⟨g7, 0, none⟩ (.int .i64 (S : Int))).setCell ⟨g7, 1, none⟩ (.int .i64 T2)).setCell ⟨g7, 2, none⟩ (.int .i64 0)).setCell ⟨g7, 3, none⟩ (.int .i64 H)) := ⟨_, rfl⟩
                rw [← hW2] at z1 z2 z3 z4
                have xr := z1
                have xs1 := z2
                have ln := z3
                have B := z4
                have KW2 : Hid _ := hW2
                clear z1 z2 z3 z4 hW2
                go_upto_region 53 with fail
                rw [← KW2.out]
                clear k0 k1 k2 k3 l0 l1 l2 l3 KW2
                clear m0 m1 m2 m3
                have cR := fun u => right_at (S : Int) T2 0 H u
                rw [decide_eq_true (show R (S : Int) T2 0 H from HRn.out)] at cR
                have cF := fun u => free_at (S : Int) T2 0 H u
                rw [fr_in (show R (S : Int) T2 0 H from HRn.out)] at cF
                have HcF : Hid _ := cF
                have HcR : Hid _ := cR
                clear cF cR
                unfold ri at HcR HcF
                obtain ⟨o0, o1, o2, o3⟩ := xr.all4
                go_wp2_with fail
                refine (HcR.out _).mono ?_
                rintro r v9 ⟨rfl, b⟩
                replace xr := xr.below b
                replace ln := ln.below b
                replace B := keep B b
                clear b xs1 HcR
                clear o0 o1 o2 o3
                obtain ⟨e0, e1, e2, e3⟩ := xr.all4
                go_wp2_with fail
                refine (HcF.out _).mono ?_
                rintro r v10 ⟨rfl, b⟩
                replace xr := xr.below b
                replace ln := ln.below b
                replace B := keep B b
                clear b e0 e1 e2 e3 HcF
                go_wp2_with fail
                go_roundw
                case rel => exact ⟨ki + 1, T2, _, [], by omega, by push_cast; rfl, rfl, (show R (S : Int) T2 0 H from HRn.out), HLY.out, ln, xr, B⟩
                case measure => simp [intOf]; omega
      · obtain ⟨c0, c1, c2, c3⟩ := xr.all4
        obtain ⟨Hn, rfl⟩ : ∃ Hn : Nat, H = Hn := ⟨H.toNat, by omega⟩
        by_cases hk : (K : Int) ≤ (Hn : Int)
        · as_aux_lemma =>
          have HRn : Hid (R (S : Int) T ((xs.length : Int) + (K : Nat)) ((Hn : Int) - (K : Int))) := by show R _ _ _ _; unfold R; omega
          obtain ⟨AT, hAT⟩ : ∃ t, t = (T + (xs.length : Int)) % (S : Int) := ⟨_, rfl⟩
          have hA0 : 0 ≤ AT := by rw [hAT]; exact Int.emod_nonneg _ (by omega)
          have hA1 : AT < S := by rw [hAT]; exact Int.emod_lt_of_pos _ (by omega)
          have hfit : Hid (xs.length + K ≤ S) := by
            have := HRn.out
            unfold R at this
            show _ ≤ _
            omega
          have cc := put_ok (S : Int) T xs.length (Hn : Int) ((K : Nat) : Int) ((K : Nat) : Int) v2 hR'.out (by omega) ⟨by omega, by omega, by omega⟩ (by rw [fr_in hR'.out]; omega)
          rw [← hAT] at cc
          unfold ri at cc
          have HAT : Hid _ := hAT
          clear hAT
          go_wp2_with fail
          refine cc.mono ?_
          rintro r v3 ⟨rfl, b⟩
          clear cc c0 c1 c2 c3
          replace xr := xr.below b
          replace xs1 := xs1.below b
          replace ln := ln.below b
          replace B := keep B b
          clear b
          have z1 := xs1.store4 (u0 := .int .i64 (S : Int)) (u1 := .int .i64 T) (u2 := .int .i64 ((xs.length : Int) + (K : Nat))) (u3 := .int .i64 ((Hn : Int) - (K : Int)))
          have z2 := xr.other4 (k := gs) (.int .i64 (S : Int)) (.int .i64 T) (.int .i64 ((xs.length : Int) + (K : Nat))) (.int .i64 ((Hn : Int) - (K : Int))) (Nat.ne_of_lt hgs.out)
          have z3 := ln.set4 xs1 (.int .i64 (S : Int)) (.int .i64 T) (.int .i64 ((xs.length : Int) + (K : Nat))) (.int .i64 ((Hn : Int) - (K : Int)))
          have z4 := below4 B (show w.heap.size ≤ gs from Nat.le_of_lt (Nat.lt_of_le_of_lt hg7.out hgs.out)) (.int .i64 (S : Int)) (.int .i64 T) (.int .i64 ((xs.length : Int) + (K : Nat))) (.int .i64 ((Hn : Int) - (K : Int)))
          unfold set4 at z1 z2 z3 z4
          obtain ⟨k0, k1, k2, k3⟩ := xs1.all4
          obtain ⟨l0, l1, l2, l3⟩ := xs1.fr4
          clear xs1 xr ln B
          obtain ⟨W1, hW1⟩ : ∃ u, u = ((((v3.setCell ⟨gs, 0, none⟩ (.int .i64 (S : Int))).setCell ⟨gs, 1, none⟩ (.int .i64 T)).setCell ⟨gs, 2, none⟩ (.int .i64 ((xs.length : Int) + (K : Nat)))).setCell ⟨gs, 3, none⟩ (.int .i64 ((Hn : Int) - (K : Int)))) := ⟨_, rfl⟩
          rw [← hW1] at z1 z2 z3 z4
          have xs1 := z1
          have xr := z2
          have ln := z3
          have B := z4
          have KW1 : Hid _ := hW1
          clear z1 z2 z3 z4 hW1
          go_upto_region 19 with fail
          rw [← KW1.out]
          clear k0 k1 k2 k3 l0 l1 l2 l3 KW1
          go_wp2_with fail
          have hst : ∃ (j : Nat) (ys : List Int), j ≤ K ∧ (Value.int .i64 0) = .int .i64 (j : Int) ∧ ys.length = xs.length + j ∧ lineOK (S : Int) T ys ∧ Line w.heap.size W1 (.slice a8 xs.length c8) ys ∧ Box W1 g7 #[.int .i64 (S : Int), .int .i64 T, .int .i64 (xs.length : Int), .int .i64 (Hn : Int)] 23 ∧ Box W1 gs #[.int .i64 (S : Int), .int .i64 T, .int .i64 ((xs.length : Int) + (K : Nat)), .int .i64 ((Hn : Int) - (K : Int))] 23 ∧ Below w.heap.size w W1 := ⟨0, xs, by omega, rfl, rfl, HLK.out, ln, xr, xs1, B⟩
          clear ln xr xs1 B
          go_loopw [8, 20] (fun v8 v20 u => ∃ (j : Nat) (ys : List Int), j ≤ K ∧ v20 = .int .i64 (j : Int) ∧ ys.length = xs.length + j ∧ lineOK (S : Int) T ys ∧ Line w.heap.size u v8 ys ∧ Box u g7 #[.int .i64 (S : Int), .int .i64 T, .int .i64 (xs.length : Int), .int .i64 (Hn : Int)] 23 ∧ Box u gs #[.int .i64 (S : Int), .int .i64 T, .int .i64 ((xs.length : Int) + (K : Nat)), .int .i64 ((Hn : Int) - (K : Int))] 23 ∧ Below w.heap.size w u) (fun _ v _ => K - (intOf v).toNat)
          case atStart => exact hst
          case round =>
            clear hst
            obtain ⟨j, ys, hj, rfl, hyl, hyo, ln, xr, xs1, B⟩ := hrel
            obtain ⟨a9, c9, rfl⟩ := ln.val
            have HYL : Hid (ys.length = xs.length + j) := hyl
            have HYO : Hid (lineOK (S : Int) T ys) := hyo
            have hyb : ys.length ≤ 40 := by have := hfit.out; omega
            clear hyl hyo
            by_cases hjk : j < K
            · go_wp2_with fail
              have hpl : (AT + (j : Int)) % (S : Int) = (T + (ys.length : Int)) % (S : Int) := by
                rw [HAT.out, place_at, HYL.out]
                push_cast
                rfl
              generalize (AT + (j : Int)) % (S : Int) = pl at hpl ⊢
              have HPL : Hid _ := hpl
              clear hpl
              have hst2 : ∃ m : Nat, m ≤ ys.length ∧ (Value.int .i64 0) = .int .i64 (m : Int) ∧ wr = wr := ⟨0, by omega, rfl, rfl⟩
              go_loopw [22] (fun v22 u => ∃ m : Nat, m ≤ ys.length ∧ v22 = .int .i64 (m : Int) ∧ wr = u) (fun v _ => ys.length - (intOf v).toNat)
              case atStart => exact hst2
              case round =>
                clear hst2
                obtain ⟨m, hm, rfl, rfl⟩ := hrel
                by_cases hml : m < ys.length
                · obtain ⟨g, o, cp, e9, hc⟩ := ln.at hml
                  injection e9 with e9 _ e9'
                  subst e9 e9'
                  rw [HYO.out m hml] at hc
                  have hne : (T + (m : Int)) % (S : Int) ≠ pl := by
                    rw [HPL.out]
                    have := hfit.out
                    have := HYL.out
                    exact unlike T S m ys.length (by omega) (by omega)
                  generalize (T + (m : Int)) % (S : Int) = q at hc hne
                  have hnb : (q == pl) = false := by simp [hne]
                  go_wp2_with fail
                  go_roundw
                  case rel => exact ⟨m + 1, by omega, by push_cast; rfl, by trivial⟩
                  case measure => simp [intOf]; omega
                · have hme : m = ys.length := by omega
                  rw [hme]
                  clear hme hml hm
                  obtain ⟨v', W', hrun, ln', b', kb⟩ := Line.append (ln.below ((Below.refl _ _).alloc (Nat.le_refl _) (.cells #[.int .i64 pl] 3))) (Nat.le_trans B.size (by simp)) 36 wr.heap.size pl (Box.new wr #[.int .i64 pl] 3) (by omega)
                  have hyo2 : Hid (lineOK (S : Int) T (ys ++ [pl])) := HYO.out.snoc pl HPL.out
                  have xr' := kb _ _ (xr.alloc (.cells #[.int .i64 pl] 3))
                  have xs1' := kb _ _ (xs1.alloc (.cells #[.int .i64 pl] 3))
                  have B' := (B.alloc B.size (.cells #[.int .i64 pl] 3)).trans b'
                  have Hrun : Hid _ := hrun
                  clear hrun
                  go_wp2_with (at_builtin; refine wpList_append_ran rfl _ _ 36 36 rfl _ _ _ W' rfl rfl Hrun.out ?_)
                  go_roundw
                  case rel => exact ⟨j + 1, ys ++ [pl], by omega, by push_cast; rfl, by rw [List.length_append, HYL.out]; rfl, hyo2.out, ln', xr', xs1', B'⟩
                  case measure => simp [intOf]; omega
            · have hje : j = K := by omega
              rw [hje] at HYL ⊢
              clear hj hjk hje
              have hU : ((xs.length : Int) + (K : Nat)) = (ys.length : Int) := by rw [HYL.out]; push_cast; rfl
              rw [hU] at xs1 HRn
              clear hU
              obtain ⟨W1, hW1⟩ : ∃ u, u = wr := ⟨_, rfl⟩
              rw [← hW1] at xs1 xr ln B ⊢
              clear hW1
              go_upto_region 51 with fail
              obtain ⟨m0, m1, m2, m3⟩ := xs1.all4
              go_upto_region 52 with fail
              have z1 := xr.store4 (u0 := .int .i64 (S : Int)) (u1 := .int .i64 T) (u2 := .int .i64 (ys.length : Int)) (u3 := .int .i64 ((Hn : Int) - (K : Int)))
              have z2 := xs1.other4 (k := g7) (.int .i64 (S : Int)) (.int .i64 T) (.int .i64 (ys.length : Int)) (.int .i64 ((Hn : Int) - (K : Int))) (Nat.ne_of_gt hgs.out)
              have z3 := ln.set4 xr (.int .i64 (S : Int)) (.int .i64 T) (.int .i64 (ys.length : Int)) (.int .i64 ((Hn : Int) - (K : Int)))
              have z4 := below4 B hg7.out (.int .i64 (S : Int)) (.int .i64 T) (.int .i64 (ys.length : Int)) (.int .i64 ((Hn : Int) - (K : Int)))
              unfold set4 at z1 z2 z3 z4
              obtain ⟨k0, k1, k2, k3⟩ := xr.all4
              obtain ⟨l0, l1, l2, l3⟩ := xr.fr4
              clear xr xs1 ln B
              obtain ⟨W2, hW2⟩ : ∃ u, u = ((((W1.setCell ⟨g7, 0, none⟩ (.int .i64 (S : Int))).setCell ⟨g7, 1, none⟩ (.int .i64 T)).setCell ⟨g7, 2, none⟩ (.int .i64 (ys.length : Int))).setCell ⟨g7, 3, none⟩ (.int .i64 ((Hn : Int) - (K : Int)))) := ⟨_, rfl⟩
              rw [← hW2] at z1 z2 z3 z4
              have xr := z1
              have xs1 := z2
              have ln := z3
              have B := z4
              have KW2 : Hid _ := hW2
              clear z1 z2 z3 z4 hW2
              go_upto_region 53 with fail
              rw [← KW2.out]
              clear k0 k1 k2 k3 l0 l1 l2 l3 KW2
              clear m0 m1 m2 m3
              have cR := fun u => right_at (S : Int) T (ys.length : Int) ((Hn : Int) - (K : Int)) u
              rw [decide_eq_true HRn.out] at cR
              have cF := fun u => free_at (S : Int) T (ys.length : Int) ((Hn : Int) - (K : Int)) u
              rw [fr_in HRn.out] at cF
              have HcF : Hid _ := cF
              have HcR : Hid _ := cR
              clear cF cR
              unfold ri at HcR HcF
              obtain ⟨o0, o1, o2, o3⟩ := xr.all4
              go_wp2_with fail
              refine (HcR.out _).mono ?_
              rintro r v9 ⟨rfl, b⟩
              replace xr := xr.below b
              replace ln := ln.below b
              replace B := keep B b
              clear b xs1 HcR
              clear o0 o1 o2 o3
              obtain ⟨e0, e1, e2, e3⟩ := xr.all4
              go_wp2_with fail
              refine (HcF.out _).mono ?_
              rintro r v10 ⟨rfl, b⟩
              replace xr := xr.below b
              replace ln := ln.below b
              replace B := keep B b
              clear b e0 e1 e2 e3 HcF
              go_wp2_with fail
              go_roundw
              case rel => exact ⟨ki + 1, T, _, ys, by omega, by push_cast; rfl, rfl, HRn.out, HYO.out, ln, xr, B⟩
              case measure => simp [intOf]; omega
        · as_aux_lemma =>
          have HRn : Hid (R (S : Int) T ((xs.length : Int) + (Hn : Nat)) 0) := by show R _ _ _ _; unfold R; omega
          obtain ⟨AT, hAT⟩ : ∃ t, t = (T + (xs.length : Int)) % (S : Int) := ⟨_, rfl⟩
          have hA0 : 0 ≤ AT := by rw [hAT]; exact Int.emod_nonneg _ (by omega)
          have hA1 : AT < S := by rw [hAT]; exact Int.emod_lt_of_pos _ (by omega)
          have hfit : Hid (xs.length + Hn ≤ S) := by
            have := HRn.out
            unfold R at this
            show _ ≤ _
            omega
          have cc := put_ok (S : Int) T xs.length (Hn : Int) ((Hn : Nat) : Int) ((Hn : Nat) : Int) v2 hR'.out (by omega) ⟨by omega, by omega, by omega⟩ (by rw [fr_in hR'.out]; omega)
          rw [show (Hn : Int) - (Hn : Int) = 0 by omega] at cc
          rw [← hAT] at cc
          unfold ri at cc
          have HAT : Hid _ := hAT
          clear hAT
          go_wp2_with fail
          refine cc.mono ?_
          rintro r v3 ⟨rfl, b⟩
          clear cc c0 c1 c2 c3
          replace xr := xr.below b
          replace xs1 := xs1.below b
          replace ln := ln.below b
          replace B := keep B b
          clear b
          have z1 := xs1.store4 (u0 := .int .i64 (S : Int)) (u1 := .int .i64 T) (u2 := .int .i64 ((xs.length : Int) + (Hn : Nat))) (u3 := .int .i64 0)
          have z2 := xr.other4 (k := gs) (.int .i64 (S : Int)) (.int .i64 T) (.int .i64 ((xs.length : Int) + (Hn : Nat))) (.int .i64 0) (Nat.ne_of_lt hgs.out)
          have z3 := ln.set4 xs1 (.int .i64 (S : Int)) (.int .i64 T) (.int .i64 ((xs.length : Int) + (Hn : Nat))) (.int .i64 0)
          have z4 := below4 B (show w.heap.size ≤ gs from Nat.le_of_lt (Nat.lt_of_le_of_lt hg7.out hgs.out)) (.int .i64 (S : Int)) (.int .i64 T) (.int .i64 ((xs.length : Int) + (Hn : Nat))) (.int .i64 0)
          unfold set4 at z1 z2 z3 z4
          obtain ⟨k0, k1, k2, k3⟩ := xs1.all4
          obtain ⟨l0, l1, l2, l3⟩ := xs1.fr4
          clear xs1 xr ln B
          obtain ⟨W1, hW1⟩ : ∃ u, u = ((((v3.setCell ⟨gs, 0, none⟩ (.int .i64 (S : Int))).setCell ⟨gs, 1, none⟩ (.int .i64 T)).setCell ⟨gs, 2, none⟩ (.int .i64 ((xs.length : Int) + (Hn : Nat)))).setCell ⟨gs, 3, none⟩ (.int .i64 0)) := ⟨_, rfl⟩
          rw [← hW1] at z1 z2 z3 z4
          have xs1 := z1
          have xr := z2
          have ln := z3
          have B := z4
          have KW1 : Hid _ := hW1
          clear z1 z2 z3 z4 hW1
          go_upto_region 19 with fail
          rw [← KW1.out]
          clear k0 k1 k2 k3 l0 l1 l2 l3 KW1
          go_wp2_with fail
          have hst : ∃ (j : Nat) (ys : List Int), j ≤ Hn ∧ (Value.int .i64 0) = .int .i64 (j : Int) ∧ ys.length = xs.length + j ∧ lineOK (S : Int) T ys ∧ Line w.heap.size W1 (.slice a8 xs.length c8) ys ∧ Box W1 g7 #[.int .i64 (S : Int), .int .i64 T, .int .i64 (xs.length : Int), .int .i64 (Hn : Int)] 23 ∧ Box W1 gs #[.int .i64 (S : Int), .int .i64 T, .int .i64 ((xs.length : Int) + (Hn : Nat)), .int .i64 0] 23 ∧ Below w.heap.size w W1 := ⟨0, xs, by omega, rfl, rfl, HLK.out, ln, xr, xs1, B⟩
          clear ln xr xs1 B
          go_loopw [8, 20] (fun v8 v20 u => ∃ (j : Nat) (ys : List Int), j ≤ Hn ∧ v20 = .int .i64 (j : Int) ∧ ys.length = xs.length + j ∧ lineOK (S : Int) T ys ∧ Line w.heap.size u v8 ys ∧ Box u g7 #[.int .i64 (S : Int), .int .i64 T, .int .i64 (xs.length : Int), .int .i64 (Hn : Int)] 23 ∧ Box u gs #[.int .i64 (S : Int), .int .i64 T, .int .i64 ((xs.length : Int) + (Hn : Nat)), .int .i64 0] 23 ∧ Below w.heap.size w u) (fun _ v _ => Hn - (intOf v).toNat)
          case atStart => exact hst
          case round =>
            clear hst
            obtain ⟨j, ys, hj, rfl, hyl, hyo, ln, xr, xs1, B⟩ := hrel
            obtain ⟨a9, c9, rfl⟩ := ln.val
            have HYL : Hid (ys.length = xs.length + j) := hyl
            have HYO : Hid (lineOK (S : Int) T ys) := hyo
            have hyb : ys.length ≤ 40 := by have := hfit.out; omega
            clear hyl hyo
            by_cases hjk : j < Hn
            · go_wp2_with fail
              have hpl : (AT + (j : Int)) % (S : Int) = (T + (ys.length : Int)) % (S : Int) := by
                rw [HAT.out, place_at, HYL.out]
                push_cast
                rfl
              generalize (AT + (j : Int)) % (S : Int) = pl at hpl ⊢
              have HPL : Hid _ := hpl
              clear hpl
              have hst2 : ∃ m : Nat, m ≤ ys.length ∧ (Value.int .i64 0) = .int .i64 (m : Int) ∧ wr = wr := ⟨0, by omega, rfl, rfl⟩
              go_loopw [22] (fun v22 u => ∃ m : Nat, m ≤ ys.length ∧ v22 = .int .i64 (m : Int) ∧ wr = u) (fun v _ => ys.length - (intOf v).toNat)
              case atStart => exact hst2
              case round =>
                clear hst2
                obtain ⟨m, hm, rfl, rfl⟩ := hrel
                by_cases hml : m < ys.length
                · obtain ⟨g, o, cp, e9, hc⟩ := ln.at hml
                  injection e9 with e9 _ e9'
                  subst e9 e9'
                  rw [HYO.out m hml] at hc
                  have hne : (T + (m : Int)) % (S : Int) ≠ pl := by
                    rw [HPL.out]
                    have := hfit.out
                    have := HYL.out
                    exact unlike T S m ys.length (by omega) (by omega)
                  generalize (T + (m : Int)) % (S : Int) = q at hc hne
                  have hnb : (q == pl) = false := by simp [hne]
                  go_wp2_with fail
                  go_roundw
                  case rel => exact ⟨m + 1, by omega, by push_cast; rfl, by trivial⟩
                  case measure => simp [intOf]; omega
                · have hme : m = ys.length := by omega
                  rw [hme]
                  clear hme hml hm
                  obtain ⟨v', W', hrun, ln', b', kb⟩ := Line.append (ln.below ((Below.refl _ _).alloc (Nat.le_refl _) (.cells #[.int .i64 pl] 3))) (Nat.le_trans B.size (by simp)) 36 wr.heap.size pl (Box.new wr #[.int .i64 pl] 3) (by omega)
                  have hyo2 : Hid (lineOK (S : Int) T (ys ++ [pl])) := HYO.out.snoc pl HPL.out
                  have xr' := kb _ _ (xr.alloc (.cells #[.int .i64 pl] 3))
                  have xs1' := kb _ _ (xs1.alloc (.cells #[.int .i64 pl] 3))
                  have B' := (B.alloc B.size (.cells #[.int .i64 pl] 3)).trans b'
                  have Hrun : Hid _ := hrun
                  clear hrun
                  go_wp2_with (at_builtin; refine wpList_append_ran rfl _ _ 36 36 rfl _ _ _ W' rfl rfl Hrun.out ?_)
                  go_roundw
                  case rel => exact ⟨j + 1, ys ++ [pl], by omega, by push_cast; rfl, by rw [List.length_append, HYL.out]; rfl, hyo2.out, ln', xr', xs1', B'⟩
                  case measure => simp [intOf]; omega
            · have hje : j = Hn := by omega
              rw [hje] at HYL ⊢
              clear hj hjk hje
              have hU : ((xs.length : Int) + (Hn : Nat)) = (ys.length : Int) := by rw [HYL.out]; push_cast; rfl
              rw [hU] at xs1 HRn
              clear hU
              obtain ⟨W1, hW1⟩ : ∃ u, u = wr := ⟨_, rfl⟩
              rw [← hW1] at xs1 xr ln B ⊢
              clear hW1
              go_upto_region 51 with fail
              obtain ⟨m0, m1, m2, m3⟩ := xs1.all4
              go_upto_region 52 with fail
              have z1 := xr.store4 (u0 := .int .i64 (S : Int)) (u1 := .int .i64 T) (u2 := .int .i64 (ys.length : Int)) (u3 := .int .i64 0)
              have z2 := xs1.other4 (k := g7) (.int .i64 (S : Int)) (.int .i64 T) (.int .i64 (ys.length : Int)) (.int .i64 0) (Nat.ne_of_gt hgs.out)
              have z3 := ln.set4 xr (.int .i64 (S : Int)) (.int .i64 T) (.int .i64 (ys.length : Int)) (.int .i64 0)
              have z4 := below4 B hg7.out (.int .i64 (S : Int)) (.int .i64 T) (.int .i64 (ys.length : Int)) (.int .i64 0)
              unfold set4 at z1 z2 z3 z4
              obtain ⟨k0, k1, k2, k3⟩ := xr.all4
              obtain ⟨l0, l1, l2, l3⟩ := xr.fr4
              clear xr xs1 ln B
              obtain ⟨W2, hW2⟩ : ∃ u, u = ((((W1.setCell ⟨g7, 0, none⟩ (.int .i64 (S : Int))).setCell ⟨g7, 1, none⟩ (.int .i64 T)).setCell ⟨g7, 2, none⟩ (.int .i64 (ys.length : Int))).setCell ⟨g7, 3, none⟩ (.int .i64 0)) := ⟨_, rfl⟩
              rw [← hW2] at z1 z2 z3 z4
              have xr := z1
              have xs1 := z2
              have ln := z3
              have B := z4
              have KW2 : Hid _ := hW2
              clear z1 z2 z3 z4 hW2
              go_upto_region 53 with fail
              rw [← KW2.out]
              clear k0 k1 k2 k3 l0 l1 l2 l3 KW2
              clear m0 m1 m2 m3
              have cR := fun u => right_at (S : Int) T (ys.length : Int) 0 u
              rw [decide_eq_true HRn.out] at cR
              have cF := fun u => free_at (S : Int) T (ys.length : Int) 0 u
              rw [fr_in HRn.out] at cF
              have HcF : Hid _ := cF
              have HcR : Hid _ := cR
              clear cF cR
              unfold ri at HcR HcF
              obtain ⟨o0, o1, o2, o3⟩ := xr.all4
              go_wp2_with fail
              refine (HcR.out _).mono ?_
              rintro r v9 ⟨rfl, b⟩
              replace xr := xr.below b
              replace ln := ln.below b
              replace B := keep B b
              clear b xs1 HcR
              clear o0 o1 o2 o3
              obtain ⟨e0, e1, e2, e3⟩ := xr.all4
              go_wp2_with fail
              refine (HcF.out _).mono ?_
              rintro r v10 ⟨rfl, b⟩
              replace xr := xr.below b
              replace ln := ln.below b
              replace B := keep B b
              clear b e0 e1 e2 e3 HcF
              go_wp2_with fail
              go_roundw
              case rel => exact ⟨ki + 1, T, _, ys, by omega, by push_cast; rfl, rfl, HRn.out, HYO.out, ln, xr, B⟩
              case measure => simp [intOf]; omega
      · obtain ⟨c0, c1, c2, c3⟩ := xr.all4
        by_cases hf : (K : Int) ≤ S - xs.length - H
        · as_aux_lemma =>
          have HRn : Hid (R (S : Int) T ((xs.length : Int) + (K : Nat)) H) := by show R _ _ _ _; unfold R; omega
          obtain ⟨AT, hAT⟩ : ∃ t, t = (T + (xs.length : Int)) % (S : Int) := ⟨_, rfl⟩
          have hA0 : 0 ≤ AT := by rw [hAT]; exact Int.emod_nonneg _ (by omega)
          have hA1 : AT < S := by rw [hAT]; exact Int.emod_lt_of_pos _ (by omega)
          have hfit : Hid (xs.length + K ≤ S) := by
            have := HRn.out
            unfold R at this
            show _ ≤ _
            omega
          have cc := put_ok (S : Int) T xs.length H ((K : Nat) : Int) 0 v2 hR'.out (by omega) ⟨by omega, by omega, by omega⟩ (by rw [fr_in hR'.out]; omega)
          rw [show H - 0 = H by omega] at cc
          rw [← hAT] at cc
          unfold ri at cc
          have HAT : Hid _ := hAT
          clear hAT
          go_wp2_with fail
          refine cc.mono ?_
          rintro r v3 ⟨rfl, b⟩
          clear cc c0 c1 c2 c3
          replace xr := xr.below b
          replace xs1 := xs1.below b
          replace ln := ln.below b
          replace B := keep B b
          clear b
          have z1 := xs1.store4 (u0 := .int .i64 (S : Int)) (u1 := .int .i64 T) (u2 := .int .i64 ((xs.length : Int) + (K : Nat))) (u3 := .int .i64 H)
          have z2 := xr.other4 (k := gs) (.int .i64 (S : Int)) (.int .i64 T) (.int .i64 ((xs.length : Int) + (K : Nat))) (.int .i64 H) (Nat.ne_of_lt hgs.out)
          have z3 := ln.set4 xs1 (.int .i64 (S : Int)) (.int .i64 T) (.int .i64 ((xs.length : Int) + (K : Nat))) (.int .i64 H)
          have z4 := below4 B (show w.heap.size ≤ gs from Nat.le_of_lt (Nat.lt_of_le_of_lt hg7.out hgs.out)) (.int .i64 (S : Int)) (.int .i64 T) (.int .i64 ((xs.length : Int) + (K : Nat))) (.int .i64 H)
          unfold set4 at z1 z2 z3 z4
          obtain ⟨k0, k1, k2, k3⟩ := xs1.all4
          obtain ⟨l0, l1, l2, l3⟩ := xs1.fr4
          clear xs1 xr ln B
          obtain ⟨W1, hW1⟩ : ∃ u, u = ((((v3.setCell ⟨gs, 0, none⟩ (.int .i64 (S : Int))).setCell ⟨gs, 1, none⟩ (.int .i64 T)).setCell ⟨gs, 2, none⟩ (.int .i64 ((xs.length : Int) + (K : Nat)))).setCell ⟨gs, 3, none⟩ (.int .i64 H)) := ⟨_, rfl⟩
          rw [← hW1] at z1 z2 z3 z4
          have xs1 := z1
          have xr := z2
          have ln := z3
          have B := z4
          have KW1 : Hid _ := hW1
          clear z1 z2 z3 z4 hW1
          go_upto_region 19 with fail
          rw [← KW1.out]
          clear k0 k1 k2 k3 l0 l1 l2 l3 KW1
          go_wp2_with fail
          have hst : ∃ (j : Nat) (ys : List Int), j ≤ K ∧ (Value.int .i64 0) = .int .i64 (j : Int) ∧ ys.length = xs.length + j ∧ lineOK (S : Int) T ys ∧ Line w.heap.size W1 (.slice a8 xs.length c8) ys ∧ Box W1 g7 #[.int .i64 (S : Int), .int .i64 T, .int .i64 (xs.length : Int), .int .i64 H] 23 ∧ Box W1 gs #[.int .i64 (S : Int), .int .i64 T, .int .i64 ((xs.length : Int) + (K : Nat)), .int .i64 H] 23 ∧ Below w.heap.size w W1 := ⟨0, xs, by omega, rfl, rfl, HLK.out, ln, xr, xs1, B⟩
          clear ln xr xs1 B
          go_loopw [8, 20] (fun v8 v20 u => ∃ (j : Nat) (ys : List Int), j ≤ K ∧ v20 = .int .i64 (j : Int) ∧ ys.length = xs.length + j ∧ lineOK (S : Int) T ys ∧ Line w.heap.size u v8 ys ∧ Box u g7 #[.int .i64 (S : Int), .int .i64 T, .int .i64 (xs.length : Int), .int .i64 H] 23 ∧ Box u gs #[.int .i64 (S : Int), .int .i64 T, .int .i64 ((xs.length : Int) + (K : Nat)), .int .i64 H] 23 ∧ Below w.heap.size w u) (fun _ v _ => K - (intOf v).toNat)
          case atStart => exact hst
          case round =>
            clear hst
            obtain ⟨j, ys, hj, rfl, hyl, hyo, ln, xr, xs1, B⟩ := hrel
            obtain ⟨a9, c9, rfl⟩ := ln.val
            have HYL : Hid (ys.length = xs.length + j) := hyl
            have HYO : Hid (lineOK (S : Int) T ys) := hyo
            have hyb : ys.length ≤ 40 := by have := hfit.out; omega
            clear hyl hyo
            by_cases hjk : j < K
            · go_wp2_with fail
              have hpl : (AT + (j : Int)) % (S : Int) = (T + (ys.length : Int)) % (S : Int) := by
                rw [HAT.out, place_at, HYL.out]
                push_cast
                rfl
              generalize (AT + (j : Int)) % (S : Int) = pl at hpl ⊢
              have HPL : Hid _ := hpl
              clear hpl
              have hst2 : ∃ m : Nat, m ≤ ys.length ∧ (Value.int .i64 0) = .int .i64 (m : Int) ∧ wr = wr := ⟨0, by omega, rfl, rfl⟩
              go_loopw [22] (fun v22 u => ∃ m : Nat, m ≤ ys.length ∧ v22 = .int .i64 (m : Int) ∧ wr = u) (fun v _ => ys.length - (intOf v).toNat)
              case atStart => exact hst2
              case round =>
                clear hst2
                obtain ⟨m, hm, rfl, rfl⟩ := hrel
                by_cases hml : m < ys.length
                · obtain ⟨g, o, cp, e9, hc⟩ := ln.at hml
                  injection e9 with e9 _ e9'
                  subst e9 e9'
                  rw [HYO.out m hml] at hc
                  have hne : (T + (m : Int)) % (S : Int) ≠ pl := by
                    rw [HPL.out]
                    have := hfit.out
                    have := HYL.out
                    exact unlike T S m ys.length (by omega) (by omega)
                  generalize (T + (m : Int)) % (S : Int) = q at hc hne
                  have hnb : (q == pl) = false := by simp [hne]
                  go_wp2_with fail
                  go_roundw
                  case rel => exact ⟨m + 1, by omega, by push_cast; rfl, by trivial⟩
                  case measure => simp [intOf]; omega
                · have hme : m = ys.length := by omega
                  rw [hme]
                  clear hme hml hm
                  obtain ⟨v', W', hrun, ln', b', kb⟩ := Line.append (ln.below ((Below.refl _ _).alloc (Nat.le_refl _) (.cells #[.int .i64 pl] 3))) (Nat.le_trans B.size (by simp)) 36 wr.heap.size pl (Box.new wr #[.int .i64 pl] 3) (by omega)
                  have hyo2 : Hid (lineOK (S : Int) T (ys ++ [pl])) := HYO.out.snoc pl HPL.out
                  have xr' := kb _ _ (xr.alloc (.cells #[.int .i64 pl] 3))
                  have xs1' := kb _ _ (xs1.alloc (.cells #[.int .i64 pl] 3))
                  have B' := (B.alloc B.size (.cells #[.int .i64 pl] 3)).trans b'
                  have Hrun : Hid _ := hrun
                  clear hrun
                  go_wp2_with (at_builtin; refine wpList_append_ran rfl _ _ 36 36 rfl _ _ _ W' rfl rfl Hrun.out ?_)
                  go_roundw
                  case rel => exact ⟨j + 1, ys ++ [pl], by omega, by push_cast; rfl, by rw [List.length_append, HYL.out]; rfl, hyo2.out, ln', xr', xs1', B'⟩
                  case measure => simp [intOf]; omega
            · have hje : j = K := by omega
              rw [hje] at HYL ⊢
              clear hj hjk hje
              have hU : ((xs.length : Int) + (K : Nat)) = (ys.length : Int) := by rw [HYL.out]; push_cast; rfl
              rw [hU] at xs1 HRn
              clear hU
              obtain ⟨W1, hW1⟩ : ∃ u, u = wr := ⟨_, rfl⟩
              rw [← hW1] at xs1 xr ln B ⊢
              clear hW1
              go_upto_region 51 with fail
              obtain ⟨m0, m1, m2, m3⟩ := xs1.all4
              go_upto_region 52 with fail
              have z1 := xr.store4 (u0 := .int .i64 (S : Int)) (u1 := .int .i64 T) (u2 := .int .i64 (ys.length : Int)) (u3 := .int .i64 H)
              have z2 := xs1.other4 (k := g7) (.int .i64 (S : Int)) (.int .i64 T) (.int .i64 (ys.length : Int)) (.int .i64 H) (Nat.ne_of_gt hgs.out)
              have z3 := ln.set4 xr (.int .i64 (S : Int)) (.int .i64 T) (.int .i64 (ys.length : Int)) (.int .i64 H)
              have z4 := below4 B hg7.out (.int .i64 (S : Int)) (.int .i64 T) (.int .i64 (ys.length : Int)) (.int .i64 H)
              unfold set4 at z1 z2 z3 z4
              obtain ⟨k0, k1, k2, k3⟩ := xr.all4
              obtain ⟨l0, l1, l2, l3⟩ := xr.fr4
              clear xr xs1 ln B
              obtain ⟨W2, hW2⟩ : ∃ u, u = ((((W1.setCell ⟨g7, 0, none⟩ (.int .i64 (S : Int))).setCell ⟨g7, 1, none⟩ (.int .i64 T)).setCell ⟨g7, 2, none⟩ (.int .i64 (ys.length : Int))).setCell ⟨g7, 3, none⟩ (.int .i64 H)) := ⟨_, rfl⟩
              rw [← hW2] at z1 z2 z3 z4
              have xr := z1
              have xs1 := z2
              have ln := z3
              have B := z4
              have KW2 : Hid _ := hW2
              clear z1 z2 z3 z4 hW2
              go_upto_region 53 with fail
              rw [← KW2.out]
              clear k0 k1 k2 k3 l0 l1 l2 l3 KW2
              clear m0 m1 m2 m3
              have cR := fun u => right_at (S : Int) T (ys.length : Int) H u
              rw [decide_eq_true HRn.out] at cR
              have cF := fun u => free_at (S : Int) T (ys.length : Int) H u
              rw [fr_in HRn.out] at cF
              have HcF : Hid _ := cF
              have HcR : Hid _ := cR
              clear cF cR
              unfold ri at HcR HcF
              obtain ⟨o0, o1, o2, o3⟩ := xr.all4
              go_wp2_with fail
              refine (HcR.out _).mono ?_
              rintro r v9 ⟨rfl, b⟩
              replace xr := xr.below b
              replace ln := ln.below b
              replace B := keep B b
              clear b xs1 HcR
              clear o0 o1 o2 o3
              obtain ⟨e0, e1, e2, e3⟩ := xr.all4
              go_wp2_with fail
              refine (HcF.out _).mono ?_
              rintro r v10 ⟨rfl, b⟩
              replace xr := xr.below b
              replace ln := ln.below b
              replace B := keep B b
              clear b e0 e1 e2 e3 HcF
              go_wp2_with fail
              go_roundw
              case rel => exact ⟨ki + 1, T, _, ys, by omega, by push_cast; rfl, rfl, HRn.out, HYO.out, ln, xr, B⟩
              case measure => simp [intOf]; omega
        · as_aux_lemma =>
          have HRn : Hid (R (S : Int) T xs.length H) := hR'.out
          go_wp2_with fail
          have cc := put_full (S : Int) T xs.length H K 0 v2 hR'.out (by omega) (by omega) ⟨by omega, by omega, by omega⟩ (by rw [fr_in hR'.out]; omega)
          unfold ri at cc
          refine cc.mono ?_
          rintro r v3 ⟨rfl, b⟩
          clear cc c0 c1 c2 c3
          replace xr := xr.below b
          replace xs1 := xs1.below b
          replace ln := ln.below b
          replace B := keep B b
          clear b
          have z1 := xs1.store4 (u0 := .int .i64 0) (u1 := .int .i64 0) (u2 := .int .i64 0) (u3 := .int .i64 0)
          have z2 := xr.other4 (k := gs) (.int .i64 0) (.int .i64 0) (.int .i64 0) (.int .i64 0) (Nat.ne_of_lt hgs.out)
          have z3 := ln.set4 xs1 (.int .i64 0) (.int .i64 0) (.int .i64 0) (.int .i64 0)
          have z4 := below4 B (show w.heap.size ≤ gs from Nat.le_of_lt (Nat.lt_of_le_of_lt hg7.out hgs.out)) (.int .i64 0) (.int .i64 0) (.int .i64 0) (.int .i64 0)
          unfold set4 at z1 z2 z3 z4
          obtain ⟨k0, k1, k2, k3⟩ := xs1.all4
          obtain ⟨l0, l1, l2, l3⟩ := xs1.fr4
          clear xs1 xr ln B
          obtain ⟨W1, hW1⟩ : ∃ u, u = ((((v3.setCell ⟨gs, 0, none⟩ (.int .i64 0)).setCell ⟨gs, 1, none⟩ (.int .i64 0)).setCell ⟨gs, 2, none⟩ (.int .i64 0)).setCell ⟨gs, 3, none⟩ (.int .i64 0)) := ⟨_, rfl⟩
          rw [← hW1] at z1 z2 z3 z4
          have xs1 := z1
          have xr := z2
          have ln := z3
          have B := z4
          have KW1 : Hid _ := hW1
          clear z1 z2 z3 z4 hW1
          go_upto_region 19 with fail
          rw [← KW1.out]
          clear k0 k1 k2 k3 l0 l1 l2 l3 KW1
          go_wp2_with fail
          go_loopw [8, 20] (fun v8 v u => v8 = .slice a8 xs.length c8 ∧ v = .int .i64 0 ∧ W1 = u) (fun _ _ _ => 0)
          case atStart => exact ⟨rfl, rfl, rfl⟩
          case round =>
            obtain ⟨rfl, rfl, rfl⟩ := hrel
            go_upto_region 51 with fail
            go_upto_region 53 with fail
            have cR := fun u => right_at (S : Int) T (xs.length : Int) H u
            rw [decide_eq_true HRn.out] at cR
            have cF := fun u => free_at (S : Int) T (xs.length : Int) H u
            rw [fr_in HRn.out] at cF
            have HcF : Hid _ := cF
            have HcR : Hid _ := cR
            clear cF cR
            unfold ri at HcR HcF
            obtain ⟨o0, o1, o2, o3⟩ := xr.all4
            go_wp2_with fail
            refine (HcR.out _).mono ?_
            rintro r v9 ⟨rfl, b⟩
            replace xr := xr.below b
            replace ln := ln.below b
            replace B := keep B b
            clear b xs1 HcR
            clear o0 o1 o2 o3
            obtain ⟨e0, e1, e2, e3⟩ := xr.all4
            go_wp2_with fail
            refine (HcF.out _).mono ?_
            rintro r v10 ⟨rfl, b⟩
            replace xr := xr.below b
            replace ln := ln.below b
            replace B := keep B b
            clear b e0 e1 e2 e3 HcF
            go_wp2_with fail
            go_roundw
            case rel => exact ⟨ki + 1, T, _, xs, by omega, by push_cast; rfl, rfl, HRn.out, HLK.out, ln, xr, B⟩
            case measure => simp [intOf]; omega
    · clear HR HL
      by_cases q9 : ki < n
      · have q10 : ¬ ki < 100 := fun h => hlt ⟨q9, h⟩
        clear hlt
        go_wp2_with fail
        refine (awake_at _).mono ?_
        rintro r v3 ⟨rfl, b⟩
        replace B := keep B b
        go_wp2_with fail
        go_ret
        exact ⟨rfl, B⟩
      · clear hlt
        go_wp2_with fail
        refine (awake_at _).mono ?_
        rintro r v3 ⟨rfl, b⟩
        replace B := keep B b
        go_wp2_with fail
        go_ret
        exact ⟨rfl, B⟩

end Go.Proofs.Ytoopdooepnojhaa
