/-
  The document's own GetInode.
-/
import Derived.Test.YtmhplpiglbamcaaRefGetN
import Derived.Deep.Cut
namespace Go.Proofs.Ytmhplpiglbamcaa
open Go.RowKit

theorem num_one (xs : List UInt8) (i : Nat) (h : i < xs.length) (j : Int) (hj : j = (i : Int)) : num xs j 1 = (xs[i]).toNat := by
  subst hj
  unfold num
  rw [numAt_some (by omega)]
  have e : (xs.drop i).take 1 = [xs[i]] := by
    rw [List.drop_eq_getElem_cons h]
    rfl
  rw [e]
  simp [beNat]

theorem readI_noughts : readI (noughts 64) = zeroI := by
  have h0 : num (noughts 64) 0 1 = 0 := by decide +kernel
  have h1 : num (noughts 64) 1 1 = 0 := by decide +kernel
  have h2 : num (noughts 64) 2 2 = 0 := by decide +kernel
  have h3 : num (noughts 64) 4 4 = 0 := by decide +kernel
  have h4 : num (noughts 64) 26 2 = 0 := by decide +kernel
  unfold readI listI
  rw [h0, h1, h2, h3, h4]
  rfl
theorem getInode_yes {xs : List UInt8} (h : putInode (readI xs).k (readI xs).l (readI xs).s (readI xs).d (readI xs).n = some xs) : getInode xs = some (readI xs) := by
  unfold putInode at h
  cases hu : unusedI (readI xs).k (readI xs).l (readI xs).s (readI xs).d.length (readI xs).n with
  | true =>
    rw [hu] at h
    have hx : noughts 64 = xs := by simpa using h
    rw [← hx, getInode_zero, readI_noughts]
  | false =>
    rw [hu] at h
    obtain ⟨h1, h2⟩ := if_some (by simpa using h : (if usedI (readI xs).k (readI xs).l (readI xs).s (readI xs).d (readI xs).n then some (inodeB (readI xs).k (readI xs).l.toNat (readI xs).s.toNat (readI xs).d (readI xs).n.toNat) else none) = some xs)
    have h3 := getInode_put _ _ _ _ _ h1
    rw [h2] at h3
    exact h3
theorem getInode_read {xs : List UInt8} {i : Ino} (h : getInode xs = some i) : i = readI xs ∧ xs.length = 64 ∧ num xs 1 1 ≤ 3 := by
  unfold getInode at h
  by_cases hl : xs.length = 64
  · rw [if_neg (by omega)] at h
    cases hz : xs.all (· == 0)
    · rw [hz] at h
      obtain ⟨hc, hx⟩ := if_some h
      simp only [Bool.and_eq_true, decide_eq_true_eq] at hc
      obtain ⟨_, _, _, h3, _⟩ := usedI_nat hc.1
      have : (listI xs).length = num xs 1 1 := readE_length _ _ _
      exact ⟨hx.symm, hl, by omega⟩
    · rw [hz] at h
      have hx : zeroI = i := by simpa using h
      have hn : xs = noughts 64 := by rw [all_zero xs hz, hl]
      refine ⟨?_, hl, ?_⟩
      · rw [← hx, hn, readI_noughts]
      · rw [hn]; decide +kernel
  · rw [if_pos (by omega)] at h
    simp at h
theorem getInode_no {xs : List UInt8} (h : putInode (readI xs).k (readI xs).l (readI xs).s (readI xs).d (readI xs).n ≠ some xs) : getInode xs = none := by
  cases hq : getInode xs with
  | none => rfl
  | some i =>
    exfalso
    obtain ⟨rfl, _⟩ := getInode_read hq
    exact h (getInode_some hq)
theorem getInode_len {xs : List UInt8} (h : ¬ (xs.length = 64 ∧ num xs 1 1 ≤ 3)) : getInode xs = none := by
  cases hq : getInode xs with
  | none => rfl
  | some i => exact absurd (getInode_read hq).2 h

section
variable {P : Program} {ops : Array Oper} {Q : Exit → Act → World → Prop} {md : Region.Mode} {C : Act → World → Prop}
/-- Two operations may come up. -/
theorem wpAnyC_two {i j : Nat} {oi oj : Oper} {fuel : Nat} {listed : Array Bool} {a : Act} {w : World} (hr : Region.ready md ops listed = [i, j]) (hi : ops[i]? = some oi) (hj : ops[j]? = some oj)
    (h1 : ∀ K' : Act → World → Prop, (∀ a w, (C a w ∧ wpAnyC P md ops Q C fuel (listed.setIfInBounds i true) a w) → K' a w) → if Region.wanted oi (yielded ops a.tmps) = true then Oper.wp P oi a w K' Q else K' (a.put oi.dst undef) w)
    (h2 : ∀ K' : Act → World → Prop, (∀ a w, (C a w ∧ wpAnyC P md ops Q C fuel (listed.setIfInBounds j true) a w) → K' a w) → if Region.wanted oj (yielded ops a.tmps) = true then Oper.wp P oj a w K' Q else K' (a.put oj.dst undef) w) :
    wpAnyC P md ops Q C (fuel + 1) listed a w := by
  refine ⟨fun h0 => (by rw [hr] at h0; cases h0), fun k hk => ?_⟩
  rw [hr] at hk
  rcases List.mem_cons.1 hk with rfl | hk
  · exact wpOp_step hi h1
  · obtain rfl : k = j := by simpa using hk
    exact wpOp_step hj h2
end

theorem refGetInode_off (n cap : Nat) (a : Option Addr) (xs : List UInt8) (w : World) (hn : xs.length = n) (hr : Rd w a xs) (h : ¬ (n = 64 ∧ num xs 1 1 ≤ 3)) :
    Calls Try.prog 30 #[.slice a n cap] w fun r w' => GetsI w w' none r := by
  have B0 := (Below.refl w.heap.size w).alloc (Nat.le_refl _) (.cells #[.int .u8 0, .int .i64 0, .int .i64 0, .slice none 0 0, .int .i64 0] 32)
  unfold GetsI
  by_cases h0 : n = 64
  · subst h0
    have h1 : 3 < num xs 1 1 := by
      apply Decidable.byContradiction
      intro h2
      exact h ⟨rfl, by omega⟩
    rw [num_one xs 1 (by omega) 1 rfl] at h1
    obtain ⟨b, o, rfl, hc⟩ := hr (by omega)
    have c1 := hc 1 (by omega)
    have hb : b < w.heap.size := block_lt_of_cell (hc 1 (by omega))
    generalize (xs[1]'(by omega)).toNat = K at c1 h1
    have h2 : (3 : Int) < (K : Int) := by omega
    clear h hn hc hr
    go_enter Try.func30, Try.ntmps30
    go_wp2_with fail
    refine bodyPost_ret (v := .tuple #[.agg #[.int .u8 0, .int .i64 0, .int .i64 0, .slice none 0 0, .int .i64 0], .int .i64 30]) (by simp [results, Try.results30, go_sem]) rfl ?_
    exact tail_nil w _ B0 _ false rfl
  · have h4 : ((n : Int) != 64) = true := by simp; omega
    clear h hn hr
    go_enter Try.func30, Try.ntmps30
    go_wp2_with fail
    refine bodyPost_ret (v := .tuple #[.agg #[.int .u8 0, .int .i64 0, .int .i64 0, .slice none 0 0, .int .i64 0], .int .i64 30]) (by simp [results, Try.results30, go_sem]) rfl ?_
    exact tail_nil w _ B0 _ false rfl

set_option maxRecDepth 100000 in
set_option maxHeartbeats 4000000 in
theorem refGetInode_in (b o cap : Nat) (xs : List UInt8) (w : World) (hn : xs.length = 64) (hr : Rd w (some ⟨b, o, none⟩) xs) (h : num xs 1 1 ≤ 3) :
    Calls Try.prog 30 #[.slice (some ⟨b, o, none⟩) 64 cap] w fun r w' => GetsI w w' (getInode xs) r := by
  have B0 := (Below.refl w.heap.size w).alloc (Nat.le_refl _) (.cells #[.int .u8 0, .int .i64 0, .int .i64 0, .slice none 0 0, .int .i64 0] 32)
  have x0 := Box.new w #[.int .u8 0, .int .i64 0, .int .i64 0, .slice none 0 0, .int .i64 0] 32
  have hyes : Hid (putInode (readI xs).k (readI xs).l (readI xs).s (readI xs).d (readI xs).n = some xs → getInode xs = some (readI xs)) := getInode_yes
  have hno : Hid (putInode (readI xs).k (readI xs).l (readI xs).s (readI xs).d (readI xs).n ≠ some xs → getInode xs = none) := getInode_no
  have n2 : ∀ W : World, Rd W (some ⟨b, o, none⟩) xs → Calls Try.prog 62 #[.slice (some ⟨b, o, none⟩) 64 cap, .int .i64 2, .int .i64 2] W fun e w' => e = .returned (.int .i64 (num xs 2 2 : Nat)) ∧ W = w' := fun W hW => by
    have c := refnumber_at cap 64 _ xs 2 2 2 W rfl hn (by omega) (by omega) (by omega) hW
    rw [num2_i64] at c
    exact c
  have n4 : ∀ W : World, Rd W (some ⟨b, o, none⟩) xs → Calls Try.prog 62 #[.slice (some ⟨b, o, none⟩) 64 cap, .int .i64 4, .int .i64 4] W fun e w' => e = .returned (.int .i64 (num xs 4 4 : Nat)) ∧ W = w' := fun W hW => by
    have c := refnumber_at cap 64 _ xs 4 4 4 W rfl hn (by omega) (by omega) (by omega) hW
    have hl := num_lt xs 4 4
    rw [i64_in _ (by omega)] at c
    exact c
  have n26 : ∀ W : World, Rd W (some ⟨b, o, none⟩) xs → Calls Try.prog 62 #[.slice (some ⟨b, o, none⟩) 64 cap, .int .i64 26, .int .i64 2] W fun e w' => e = .returned (.int .i64 (num xs 26 2 : Nat)) ∧ W = w' := fun W hW => by
    have c := refnumber_at cap 64 _ xs 26 2 2 W rfl hn (by omega) (by omega) (by omega) hW
    rw [num2_i64] at c
    exact c
  have hI : Hid (readI xs = ⟨num xs 0 1, (num xs 2 2 : Nat), (num xs 4 4 : Nat), readE xs 8 (num xs 1 1), (num xs 26 2 : Nat)⟩) := rfl
  have e0 := num_one xs 0 (by omega) 0 rfl
  have e1 := num_one xs 1 (by omega) 1 rfl
  have hc0 := (hr.below B0 (Nat.le_refl _))
  obtain ⟨b', o', he, hc⟩ := hr (by omega)
  simp only [Option.some.injEq, Addr.mk.injEq, and_true] at he
  obtain ⟨rfl, rfl⟩ := he
  have hb : b < w.heap.size := block_lt_of_cell (hc 1 (by omega))
  have k0 := hc 0 (by omega)
  have k1 := hc 1 (by omega)
  rw [← e0] at k0
  rw [← e1] at k1
  rw [Nat.add_zero] at k0
  have hlen := readE_length xs 8 (num xs 1 1)
  have hnat := readE_nat xs 8 (num xs 1 1)
  have r29 : ∀ W : World, Rd W (some ⟨b, o, none⟩) xs → Calls Try.prog 63 #[.slice (some ⟨b, o, none⟩) 64 cap, .int .i64 8, .int .i64 (num xs 1 1 : Nat)] W fun r w' => ∃ v, r = .returned v ∧ w'.ownsRow W.heap.size 46 3 v (num xs 1 1) (ecs (readE xs 8 (num xs 1 1))) ∧ Below W.heap.size W w' := fun W hW =>
    refread_at 64 cap 8 (num xs 1 1) _ xs W hn (by omega) (by omega) (by omega) hW
  have hK0 : num xs 0 1 < 256 := num_lt xs 0 1
  clear e0 e1 hc
  generalize num xs 0 1 = K0 at k0 hI hK0
  generalize num xs 2 2 = N2 at n2 hI
  generalize num xs 4 4 = N4 at n4 hI
  generalize num xs 26 2 = N26 at n26 hI
  obtain ⟨L, hL⟩ : ∃ L, L = readE xs 8 (num xs 1 1) := ⟨_, rfl⟩
  rw [← hL] at hI hlen hnat r29
  clear hL
  generalize num xs 1 1 = K1 at k1 h hlen r29
  have Hlen : Hid _ := hlen
  have Hn : Hid _ := hn
  clear hlen hn
  have d1 : ¬ (3 : Int) < (K1 : Int) := by omega
  have hwk : IntKind.i64.wrap (K1 : Int) = K1 := by rw [IntKind.wrap_i64]; omega
  have q1 := (B0.cell (p := ⟨b, o + 1, none⟩) hb).trans k1
  obtain ⟨W, hW⟩ : ∃ W, W = w.alloc (.cells #[.int .u8 0, .int .i64 0, .int .i64 0, .slice none 0 0, .int .i64 0] 32) := ⟨_, rfl⟩
  rw [← hW] at B0 x0 hc0 q1
  have HW : Hid _ := hW
  clear hW
  go_enter Try.func30, Try.ntmps30
  go_wp2_with fail
  rw [← HW.out]
  go_wp2_with fail
  clear q1
  go_cut [4] from 5 (fun v4 u => ∃ G v29, v4 = .pointer (some ⟨G, 0, none⟩) ∧ Box u G #[.int .u8 (K0 : Int), .int .i64 (N2 : Int), .int .i64 (N4 : Int), v29, .int .i64 (N26 : Int)] 32 ∧ u.ownsRow w.heap.size 46 3 v29 K1 (ecs L) ∧ Box u w.heap.size #[.int .u8 0, .int .i64 0, .int .i64 0, .slice none 0 0, .int .i64 0] 32 ∧ Below w.heap.size w u)
  case first =>
    refine wp_region_any (by kernel_rfl) ?_
    change wpAny _ _ _ _ _ _ _ (World.drew _)
    refine wpAny_take (i := 0) (v := ?_) rfl (by kernel_rfl) (by kernel_rfl) (by kernel_rfl) (fun _ _ _ h => h) (Or.inl ⟨by rfl, ?_⟩) ?_
    rotate_left
    · intro w
      go_simp
      with_reducible rfl
    refine wpAny_take (i := 1) (v := ?_) rfl (by kernel_rfl) (by kernel_rfl) (by kernel_rfl) (fun _ _ _ h => h) (Or.inl ⟨by rfl, ?_⟩) ?_
    rotate_left
    · intro w
      go_simp
      with_reducible rfl
    refine wpAny_take (i := 3) (v := ?_) rfl (by kernel_rfl) (by kernel_rfl) (by kernel_rfl) (fun _ _ _ h => h) (Or.inl ⟨by rfl, ?_⟩) ?_
    rotate_left
    · intro w
      go_simp
      with_reducible rfl
    refine wpAny_take (i := 5) (v := ?_) rfl (by kernel_rfl) (by kernel_rfl) (by kernel_rfl) (fun _ _ _ h => h) (Or.inl ⟨by rfl, ?_⟩) ?_
    rotate_left
    · intro w
      go_simp
      with_reducible rfl
    refine wpAny_take (i := 7) (v := ?_) rfl (by kernel_rfl) (by kernel_rfl) (by kernel_rfl) (fun _ _ _ h => h) (Or.inl ⟨by rfl, ?_⟩) ?_
    rotate_left
    · intro w
      go_simp
      with_reducible rfl
    refine wpAny_take (i := 8) (v := ?_) rfl (by kernel_rfl) (by kernel_rfl) (by kernel_rfl) (fun _ _ _ h => h) (Or.inl ⟨by rfl, ?_⟩) ?_
    rotate_left
    · intro w
      go_simp
      with_reducible rfl
    refine wpAny_take (i := 9) (v := ?_) rfl (by kernel_rfl) (by kernel_rfl) (by kernel_rfl) (fun _ _ _ h => h) (Or.inl ⟨by rfl, ?_⟩) ?_
    rotate_left
    · intro w
      go_simp
      with_reducible rfl
    refine wpAny_take (i := 13) (v := ?_) rfl (by kernel_rfl) (by kernel_rfl) (by kernel_rfl) (fun _ _ _ h => h) (Or.inl ⟨by rfl, ?_⟩) ?_
    rotate_left
    · intro w
      go_simp
      with_reducible rfl
    simp only [Act.put, List.setIfInBounds_toArray, List.set_cons_zero, List.set_cons_succ, List.getElem_toArray, List.getElem_cons_zero, List.getElem_cons_succ]
    refine wpAny_of_class (C := SlotsCells [(18, .pointer (some ⟨b, o, none⟩)), (26, .pointer (some ⟨b, o + 1, none⟩))] [(⟨b, o, none⟩, .int .u8 (K0 : Int)), (⟨b, o + 1, none⟩, .int .u8 (K1 : Int))]) _ _ _ _ ?_
    have hq : ∀ u : World, Below w.heap.size w u → ∀ q ∈ ([(⟨b, o, none⟩, .int .u8 (K0 : Int)), (⟨b, o + 1, none⟩, .int .u8 (K1 : Int))] : List (Addr × Value)), u.cell? q.1 = some q.2 := by
      intro u hu q hq
      simp at hq
      rcases hq with rfl | rfl
      · exact (hu.cell (p := ⟨b, o, none⟩) hb).trans k0
      · exact (hu.cell (p := ⟨b, o + 1, none⟩) hb).trans k1
    refine wpAnyC_take (i := 2) (v := .int .u8 (K0 : Int)) rfl (by kernel_rfl) (by kernel_rfl) (by kernel_rfl) (fun _ _ _ h => h) ?_ (fun fr u h => (SlotsCells.put 19 _ (by rfl)).1 h) (fun fr u h => (SlotsCells.put 19 _ (by rfl)).2 h) ?_ ?_
    · intro fr u h
      obtain ⟨e1, e2⟩ := h.load (s := 18) (p := ⟨b, o, none⟩) (v := .int .u8 (K0 : Int)) (by simp) (by simp)
      exact ⟨rfl, by simp [execOp, e1, go_sem, e2]⟩
    · refine ⟨fun p hp => ?_, hq _ B0.drew⟩
      simp at hp
      rcases hp with rfl | rfl <;> rfl
    simp only [Act.put, List.setIfInBounds_toArray, List.set_cons_zero, List.set_cons_succ, List.getElem_toArray, List.getElem_cons_zero, List.getElem_cons_succ]
    refine wpAnyC_take (i := 10) (v := .int .u8 (K1 : Int)) rfl (by kernel_rfl) (by kernel_rfl) (by kernel_rfl) (fun _ _ _ h => h) ?_ (fun fr u h => (SlotsCells.put 27 _ (by rfl)).1 h) (fun fr u h => (SlotsCells.put 27 _ (by rfl)).2 h) ?_ ?_
    · intro fr u h
      obtain ⟨e1, e2⟩ := h.load (s := 26) (p := ⟨b, o + 1, none⟩) (v := .int .u8 (K1 : Int)) (by simp) (by simp)
      exact ⟨rfl, by simp [execOp, e1, go_sem, e2]⟩
    · refine ⟨fun p hp => ?_, hq _ B0.drew⟩
      simp at hp
      rcases hp with rfl | rfl <;> rfl
    simp only [Act.put, List.setIfInBounds_toArray, List.set_cons_zero, List.set_cons_succ, List.getElem_toArray, List.getElem_cons_zero, List.getElem_cons_succ]
    refine wpAnyC_mono (C' := SlotsCells [(18, .pointer (some ⟨b, o, none⟩)), (26, .pointer (some ⟨b, o + 1, none⟩)), (27, .int .u8 (K1 : Int))] [(⟨b, o, none⟩, .int .u8 (K0 : Int)), (⟨b, o + 1, none⟩, .int .u8 (K1 : Int))]) (fun fr u h => ⟨fun p hp => h.1 p (by simp at hp ⊢; rcases hp with rfl | rfl <;> simp), h.2⟩) _ _ _ _ ?_
    refine wpAnyC_take (i := 11) (v := .int .i64 (K1 : Int)) rfl (by kernel_rfl) (by kernel_rfl) (by kernel_rfl) (fun _ _ _ h => h) ?_ (fun fr u h => (SlotsCells.put 28 _ (by rfl)).1 h) (fun fr u h => (SlotsCells.put 28 _ (by rfl)).2 h) ?_ ?_
    · rintro fr u ⟨hs, hx⟩
      have h1 := hs (27, .int .u8 (K1 : Int)) (by simp)
      replace h1 : fr.tmps[27]?.getD undef = .int .u8 (K1 : Int) := by simpa [Act.eval] using h1
      refine ⟨rfl, ?_⟩
      simp only [execOp, Act.eval, Array.getD_eq_getD_getElem?]
      go_simp
    · refine ⟨fun p hp => ?_, hq _ B0.drew⟩
      simp at hp
      rcases hp with rfl | rfl | rfl <;> rfl
    simp only [Act.put, List.setIfInBounds_toArray, List.set_cons_zero, List.set_cons_succ, List.getElem_toArray, List.getElem_cons_zero, List.getElem_cons_succ]
    have Bd : Below w.heap.size w W.drew := B0.drew
    have xd : Box W.drew w.heap.size #[.int .u8 0, .int .i64 0, .int .i64 0, .slice none 0 0, .int .i64 0] 32 := x0
    obtain ⟨V0, hV⟩ : ∃ V, V = W.drew := ⟨_, rfl⟩
    rw [← hV] at Bd xd ⊢
    clear hV B0 x0 hc0
    refine wpAnyC_two (i := 4) (j := 16) (by kernel_rfl) rfl rfl (fun K hK => ?_) (fun K hK => ?_)
    · skip
      go_simp
      refine (n2 V0 (hr.below Bd (Nat.le_refl _))).mono ?_
      rintro r w1 ⟨rfl, rfl⟩
      refine hK _ _ ⟨?_, ?_⟩
      · refine ⟨fun p hp => ?_, hq _ Bd⟩
        simp at hp
        rcases hp with rfl | rfl | rfl <;> rfl
      clear hK K
      refine wpAnyC_two (i := 6) (j := 16) (by kernel_rfl) rfl rfl (fun K hK => ?_) (fun K hK => ?_)
      · skip
        go_simp
        refine (n4 V0 (hr.below Bd (Nat.le_refl _))).mono ?_
        rintro r w2 ⟨rfl, rfl⟩
        refine hK _ _ ⟨?_, ?_⟩
        · refine ⟨fun p hp => ?_, hq _ Bd⟩
          simp at hp
          rcases hp with rfl | rfl | rfl <;> rfl
        clear hK K
        refine wpAnyC_two (i := 12) (j := 16) (by kernel_rfl) rfl rfl (fun K hK => ?_) (fun K hK => ?_)
        · skip
          go_simp
          refine (r29 V0 (hr.below Bd (Nat.le_refl _))).mono ?_
          rintro r w3 ⟨v29, rfl, o29, b3⟩
          have B3 := Bd.trans (b3.mono Bd.size)
          have x3 := xd.below b3
          replace o29 := owns_weaken o29 Bd.size
          obtain ⟨a29, c29, rfl, _⟩ := ownsE_parts o29
          refine hK _ _ ⟨?_, ?_⟩
          · refine ⟨fun p hp => ?_, hq _ B3⟩
            simp at hp
            rcases hp with rfl | rfl | rfl <;> rfl
          clear hK K b3
          refine wpAnyC_two (i := 14) (j := 16) (by kernel_rfl) rfl rfl (fun K hK => ?_) (fun K hK => ?_)
          · skip
            go_simp
            refine (n26 w3 (hr.below B3 (Nat.le_refl _))).mono ?_
            rintro r w4 ⟨rfl, rfl⟩
            refine hK _ _ ⟨?_, ?_⟩
            · refine ⟨fun p hp => ?_, hq _ B3⟩
              simp at hp
              rcases hp with rfl | rfl | rfl <;> rfl
            clear hK K
            refine wpAnyC_two (i := 15) (j := 16) (by kernel_rfl) rfl rfl (fun K hK => ?_) (fun K hK => ?_)
            · skip
              go_simp
              refine hK _ _ ⟨?_, ?_⟩
              · refine ⟨fun p hp => ?_, hq _ B3⟩
                simp at hp
                rcases hp with rfl | rfl | rfl <;> rfl
              clear hK K
              refine wpAnyC_one (i := 16) (by kernel_rfl) rfl (fun K hK => ?_)
              go_simp
              have B6 := B3.alloc B3.size (.cells #[.int .u8 0, .int .i64 0, .int .i64 0, .slice none 0 0, .int .i64 0] 32)
              have x6 := x3.alloc (.cells #[.int .u8 0, .int .i64 0, .int .i64 0, .slice none 0 0, .int .i64 0] 32)
              have y6 := Box.new w3 #[.int .u8 0, .int .i64 0, .int .i64 0, .slice none 0 0, .int .i64 0] 32
              have p6 := o29.alloc (.cells #[.int .u8 0, .int .i64 0, .int .i64 0, .slice none 0 0, .int .i64 0] 32)
              refine hK _ _ ⟨?_, ?_⟩
              · refine ⟨fun p hp => ?_, hq _ B6⟩
                simp at hp
                rcases hp with rfl | rfl | rfl <;> rfl
              clear hK K
              obtain ⟨G, hG⟩ : ∃ G, G = w3.heap.size := ⟨_, rfl⟩
              rw [← hG] at y6 ⊢
              obtain ⟨V6, hV⟩ : ∃ V, V = w3.alloc (.cells #[.int .u8 0, .int .i64 0, .int .i64 0, .slice none 0 0, .int .i64 0] 32) := ⟨_, rfl⟩
              rw [← hV] at B6 x6 y6 p6 ⊢
              have hGw : w.heap.size ≤ G := by rw [hG]; exact B3.size
              have hGlt : w.heap.size < G := by rw [hG]; exact x3.lt
              clear hV hG
              refine wpAnyC_one (i := 17) (by kernel_rfl) rfl (fun K hK => ?_)
              have m0 := y6.cell 0
              have m1 := y6.cell 1
              have m2 := y6.cell 2
              have m3 := y6.cell 3
              have m4 := y6.cell 4
              simp only [List.getElem?_toArray, List.getElem?_cons_zero, List.getElem?_cons_succ] at m0 m1 m2 m3 m4
              have f0 := y6.frozen 0
              have f1 := y6.frozen 1
              have f2 := y6.frozen 2
              have f3 := y6.frozen 3
              have f4 := y6.frozen 4
              go_simp
              have Y := (((((y6.store 0 (.int .u8 (K0 : Int))).store 1 (.int .i64 (N2 : Int))).store 2 (.int .i64 (N4 : Int))).store 3 (.slice a29 K1 c29)).store 4 (.int .i64 (N26 : Int)))
              have C1 := (((((B6.setCell (p := ⟨G, 0, none⟩) hGw (.int .u8 (K0 : Int))).setCell (p := ⟨G, 1, none⟩) hGw (.int .i64 (N2 : Int))).setCell (p := ⟨G, 2, none⟩) hGw (.int .i64 (N4 : Int))).setCell (p := ⟨G, 3, none⟩) hGw (.slice a29 K1 c29)).setCell (p := ⟨G, 4, none⟩) hGw (.int .i64 (N26 : Int)))
              have gg : V6.grownBy (((((V6.setCell ⟨G, 0, none⟩ (.int .u8 (K0 : Int))).setCell ⟨G, 1, none⟩ (.int .i64 (N2 : Int))).setCell ⟨G, 2, none⟩ (.int .i64 (N4 : Int))).setCell ⟨G, 3, none⟩ (.slice a29 K1 c29)).setCell ⟨G, 4, none⟩ (.int .i64 (N26 : Int))) (some G) := (grown_trans (grown_trans (grown_trans (grown_trans (grown_trans (World.grownBy.refl V6 (some G)) (grown_store _ G 0 (.int .u8 (K0 : Int)))) (grown_store _ G 1 (.int .i64 (N2 : Int)))) (grown_store _ G 2 (.int .i64 (N4 : Int)))) (grown_store _ G 3 (.slice a29 K1 c29))) (grown_store _ G 4 (.int .i64 (N26 : Int))))
              have oz := p6.kept gg (.inr (fun h => own_tag p6 y6 (by decide) h.symm))
              have xz : Box (((((V6.setCell ⟨G, 0, none⟩ (.int .u8 (K0 : Int))).setCell ⟨G, 1, none⟩ (.int .i64 (N2 : Int))).setCell ⟨G, 2, none⟩ (.int .i64 (N4 : Int))).setCell ⟨G, 3, none⟩ (.slice a29 K1 c29)).setCell ⟨G, 4, none⟩ (.int .i64 (N26 : Int))) w.heap.size #[.int .u8 0, .int .i64 0, .int .i64 0, .slice none 0 0, .int .i64 0] 32 := (gg.block _ x6.lt (by simp; omega)).trans x6
              refine hK _ _ ⟨?_, ?_⟩
              · refine ⟨fun p hp => ?_, hq _ C1⟩
                simp at hp
                rcases hp with rfl | rfl | rfl <;> rfl
              clear hK K m0 m1 m2 m3 m4 f0 f1 f2 f3 f4
              refine wpAnyC_done (by kernel_rfl) ?_ _
              go_wp2_with fail
              go_meet
              case rel => exact ⟨G, _, rfl, Y, oz, xz, C1⟩
            · skip
              go_simp
              have B7 := B3.alloc B3.size (.cells #[.int .u8 0, .int .i64 0, .int .i64 0, .slice none 0 0, .int .i64 0] 32)
              have x7 := x3.alloc (.cells #[.int .u8 0, .int .i64 0, .int .i64 0, .slice none 0 0, .int .i64 0] 32)
              have y7 := Box.new w3 #[.int .u8 0, .int .i64 0, .int .i64 0, .slice none 0 0, .int .i64 0] 32
              have p7 := o29.alloc (.cells #[.int .u8 0, .int .i64 0, .int .i64 0, .slice none 0 0, .int .i64 0] 32)
              refine hK _ _ ⟨?_, ?_⟩
              · refine ⟨fun p hp => ?_, hq _ B7⟩
                simp at hp
                rcases hp with rfl | rfl | rfl <;> rfl
              clear hK K
              obtain ⟨G, hG⟩ : ∃ G, G = w3.heap.size := ⟨_, rfl⟩
              rw [← hG] at y7 ⊢
              obtain ⟨V7, hV⟩ : ∃ V, V = w3.alloc (.cells #[.int .u8 0, .int .i64 0, .int .i64 0, .slice none 0 0, .int .i64 0] 32) := ⟨_, rfl⟩
              rw [← hV] at B7 x7 y7 p7 ⊢
              have hGw : w.heap.size ≤ G := by rw [hG]; exact B3.size
              have hGlt : w.heap.size < G := by rw [hG]; exact x3.lt
              clear hV hG
              refine wpAnyC_one (i := 15) (by kernel_rfl) rfl (fun K hK => ?_)
              go_simp
              refine hK _ _ ⟨?_, ?_⟩
              · refine ⟨fun p hp => ?_, hq _ B7⟩
                simp at hp
                rcases hp with rfl | rfl | rfl <;> rfl
              clear hK K
              refine wpAnyC_one (i := 17) (by kernel_rfl) rfl (fun K hK => ?_)
              have m0 := y7.cell 0
              have m1 := y7.cell 1
              have m2 := y7.cell 2
              have m3 := y7.cell 3
              have m4 := y7.cell 4
              simp only [List.getElem?_toArray, List.getElem?_cons_zero, List.getElem?_cons_succ] at m0 m1 m2 m3 m4
              have f0 := y7.frozen 0
              have f1 := y7.frozen 1
              have f2 := y7.frozen 2
              have f3 := y7.frozen 3
              have f4 := y7.frozen 4
              go_simp
              have Y := (((((y7.store 0 (.int .u8 (K0 : Int))).store 1 (.int .i64 (N2 : Int))).store 2 (.int .i64 (N4 : Int))).store 3 (.slice a29 K1 c29)).store 4 (.int .i64 (N26 : Int)))
              have C1 := (((((B7.setCell (p := ⟨G, 0, none⟩) hGw (.int .u8 (K0 : Int))).setCell (p := ⟨G, 1, none⟩) hGw (.int .i64 (N2 : Int))).setCell (p := ⟨G, 2, none⟩) hGw (.int .i64 (N4 : Int))).setCell (p := ⟨G, 3, none⟩) hGw (.slice a29 K1 c29)).setCell (p := ⟨G, 4, none⟩) hGw (.int .i64 (N26 : Int)))
              have gg : V7.grownBy (((((V7.setCell ⟨G, 0, none⟩ (.int .u8 (K0 : Int))).setCell ⟨G, 1, none⟩ (.int .i64 (N2 : Int))).setCell ⟨G, 2, none⟩ (.int .i64 (N4 : Int))).setCell ⟨G, 3, none⟩ (.slice a29 K1 c29)).setCell ⟨G, 4, none⟩ (.int .i64 (N26 : Int))) (some G) := (grown_trans (grown_trans (grown_trans (grown_trans (grown_trans (World.grownBy.refl V7 (some G)) (grown_store _ G 0 (.int .u8 (K0 : Int)))) (grown_store _ G 1 (.int .i64 (N2 : Int)))) (grown_store _ G 2 (.int .i64 (N4 : Int)))) (grown_store _ G 3 (.slice a29 K1 c29))) (grown_store _ G 4 (.int .i64 (N26 : Int))))
              have oz := p7.kept gg (.inr (fun h => own_tag p7 y7 (by decide) h.symm))
              have xz : Box (((((V7.setCell ⟨G, 0, none⟩ (.int .u8 (K0 : Int))).setCell ⟨G, 1, none⟩ (.int .i64 (N2 : Int))).setCell ⟨G, 2, none⟩ (.int .i64 (N4 : Int))).setCell ⟨G, 3, none⟩ (.slice a29 K1 c29)).setCell ⟨G, 4, none⟩ (.int .i64 (N26 : Int))) w.heap.size #[.int .u8 0, .int .i64 0, .int .i64 0, .slice none 0 0, .int .i64 0] 32 := (gg.block _ x7.lt (by simp; omega)).trans x7
              refine hK _ _ ⟨?_, ?_⟩
              · refine ⟨fun p hp => ?_, hq _ C1⟩
                simp at hp
                rcases hp with rfl | rfl | rfl <;> rfl
              clear hK K m0 m1 m2 m3 m4 f0 f1 f2 f3 f4
              refine wpAnyC_done (by kernel_rfl) ?_ _
              go_wp2_with fail
              go_meet
              case rel => exact ⟨G, _, rfl, Y, oz, xz, C1⟩
          · skip
            go_simp
            have B9 := B3.alloc B3.size (.cells #[.int .u8 0, .int .i64 0, .int .i64 0, .slice none 0 0, .int .i64 0] 32)
            have x9 := x3.alloc (.cells #[.int .u8 0, .int .i64 0, .int .i64 0, .slice none 0 0, .int .i64 0] 32)
            have y9 := Box.new w3 #[.int .u8 0, .int .i64 0, .int .i64 0, .slice none 0 0, .int .i64 0] 32
            have p9 := o29.alloc (.cells #[.int .u8 0, .int .i64 0, .int .i64 0, .slice none 0 0, .int .i64 0] 32)
            refine hK _ _ ⟨?_, ?_⟩
            · refine ⟨fun p hp => ?_, hq _ B9⟩
              simp at hp
              rcases hp with rfl | rfl | rfl <;> rfl
            clear hK K
            obtain ⟨G, hG⟩ : ∃ G, G = w3.heap.size := ⟨_, rfl⟩
            rw [← hG] at y9 ⊢
            obtain ⟨V9, hV⟩ : ∃ V, V = w3.alloc (.cells #[.int .u8 0, .int .i64 0, .int .i64 0, .slice none 0 0, .int .i64 0] 32) := ⟨_, rfl⟩
            rw [← hV] at B9 x9 y9 p9 ⊢
            have hGw : w.heap.size ≤ G := by rw [hG]; exact B3.size
            have hGlt : w.heap.size < G := by rw [hG]; exact x3.lt
            clear hV hG
            refine wpAnyC_one (i := 14) (by kernel_rfl) rfl (fun K hK => ?_)
            go_simp
            refine (n26 V9 (hr.below B9 (Nat.le_refl _))).mono ?_
            rintro r w10 ⟨rfl, rfl⟩
            refine hK _ _ ⟨?_, ?_⟩
            · refine ⟨fun p hp => ?_, hq _ B9⟩
              simp at hp
              rcases hp with rfl | rfl | rfl <;> rfl
            clear hK K
            refine wpAnyC_one (i := 15) (by kernel_rfl) rfl (fun K hK => ?_)
            go_simp
            refine hK _ _ ⟨?_, ?_⟩
            · refine ⟨fun p hp => ?_, hq _ B9⟩
              simp at hp
              rcases hp with rfl | rfl | rfl <;> rfl
            clear hK K
            refine wpAnyC_one (i := 17) (by kernel_rfl) rfl (fun K hK => ?_)
            have m0 := y9.cell 0
            have m1 := y9.cell 1
            have m2 := y9.cell 2
            have m3 := y9.cell 3
            have m4 := y9.cell 4
            simp only [List.getElem?_toArray, List.getElem?_cons_zero, List.getElem?_cons_succ] at m0 m1 m2 m3 m4
            have f0 := y9.frozen 0
            have f1 := y9.frozen 1
            have f2 := y9.frozen 2
            have f3 := y9.frozen 3
            have f4 := y9.frozen 4
            go_simp
            have Y := (((((y9.store 0 (.int .u8 (K0 : Int))).store 1 (.int .i64 (N2 : Int))).store 2 (.int .i64 (N4 : Int))).store 3 (.slice a29 K1 c29)).store 4 (.int .i64 (N26 : Int)))
            have C1 := (((((B9.setCell (p := ⟨G, 0, none⟩) hGw (.int .u8 (K0 : Int))).setCell (p := ⟨G, 1, none⟩) hGw (.int .i64 (N2 : Int))).setCell (p := ⟨G, 2, none⟩) hGw (.int .i64 (N4 : Int))).setCell (p := ⟨G, 3, none⟩) hGw (.slice a29 K1 c29)).setCell (p := ⟨G, 4, none⟩) hGw (.int .i64 (N26 : Int)))
            have gg : V9.grownBy (((((V9.setCell ⟨G, 0, none⟩ (.int .u8 (K0 : Int))).setCell ⟨G, 1, none⟩ (.int .i64 (N2 : Int))).setCell ⟨G, 2, none⟩ (.int .i64 (N4 : Int))).setCell ⟨G, 3, none⟩ (.slice a29 K1 c29)).setCell ⟨G, 4, none⟩ (.int .i64 (N26 : Int))) (some G) := (grown_trans (grown_trans (grown_trans (grown_trans (grown_trans (World.grownBy.refl V9 (some G)) (grown_store _ G 0 (.int .u8 (K0 : Int)))) (grown_store _ G 1 (.int .i64 (N2 : Int)))) (grown_store _ G 2 (.int .i64 (N4 : Int)))) (grown_store _ G 3 (.slice a29 K1 c29))) (grown_store _ G 4 (.int .i64 (N26 : Int))))
            have oz := p9.kept gg (.inr (fun h => own_tag p9 y9 (by decide) h.symm))
            have xz : Box (((((V9.setCell ⟨G, 0, none⟩ (.int .u8 (K0 : Int))).setCell ⟨G, 1, none⟩ (.int .i64 (N2 : Int))).setCell ⟨G, 2, none⟩ (.int .i64 (N4 : Int))).setCell ⟨G, 3, none⟩ (.slice a29 K1 c29)).setCell ⟨G, 4, none⟩ (.int .i64 (N26 : Int))) w.heap.size #[.int .u8 0, .int .i64 0, .int .i64 0, .slice none 0 0, .int .i64 0] 32 := (gg.block _ x9.lt (by simp; omega)).trans x9
            refine hK _ _ ⟨?_, ?_⟩
            · refine ⟨fun p hp => ?_, hq _ C1⟩
              simp at hp
              rcases hp with rfl | rfl | rfl <;> rfl
            clear hK K m0 m1 m2 m3 m4 f0 f1 f2 f3 f4
            refine wpAnyC_done (by kernel_rfl) ?_ _
            go_wp2_with fail
            go_meet
            case rel => exact ⟨G, _, rfl, Y, oz, xz, C1⟩
        · skip
          go_simp
          have B12 := Bd.alloc Bd.size (.cells #[.int .u8 0, .int .i64 0, .int .i64 0, .slice none 0 0, .int .i64 0] 32)
          have x12 := xd.alloc (.cells #[.int .u8 0, .int .i64 0, .int .i64 0, .slice none 0 0, .int .i64 0] 32)
          have y12 := Box.new V0 #[.int .u8 0, .int .i64 0, .int .i64 0, .slice none 0 0, .int .i64 0] 32
          refine hK _ _ ⟨?_, ?_⟩
          · refine ⟨fun p hp => ?_, hq _ B12⟩
            simp at hp
            rcases hp with rfl | rfl | rfl <;> rfl
          clear hK K
          obtain ⟨G, hG⟩ : ∃ G, G = V0.heap.size := ⟨_, rfl⟩
          rw [← hG] at y12 ⊢
          obtain ⟨V12, hV⟩ : ∃ V, V = V0.alloc (.cells #[.int .u8 0, .int .i64 0, .int .i64 0, .slice none 0 0, .int .i64 0] 32) := ⟨_, rfl⟩
          rw [← hV] at B12 x12 y12 ⊢
          have hGw : w.heap.size ≤ G := by rw [hG]; exact Bd.size
          have hGlt : w.heap.size < G := by rw [hG]; exact xd.lt
          clear hV hG
          refine wpAnyC_one (i := 12) (by kernel_rfl) rfl (fun K hK => ?_)
          go_simp
          refine (r29 V12 (hr.below B12 (Nat.le_refl _))).mono ?_
          rintro r w13 ⟨v29, rfl, o29, b13⟩
          have B13 := B12.trans (b13.mono B12.size)
          have x13 := x12.below b13
          replace o29 := owns_weaken o29 B12.size
          obtain ⟨a29, c29, rfl, _⟩ := ownsE_parts o29
          have y13 := y12.below b13
          refine hK _ _ ⟨?_, ?_⟩
          · refine ⟨fun p hp => ?_, hq _ B13⟩
            simp at hp
            rcases hp with rfl | rfl | rfl <;> rfl
          clear hK K b13
          refine wpAnyC_one (i := 14) (by kernel_rfl) rfl (fun K hK => ?_)
          go_simp
          refine (n26 w13 (hr.below B13 (Nat.le_refl _))).mono ?_
          rintro r w14 ⟨rfl, rfl⟩
          refine hK _ _ ⟨?_, ?_⟩
          · refine ⟨fun p hp => ?_, hq _ B13⟩
            simp at hp
            rcases hp with rfl | rfl | rfl <;> rfl
          clear hK K
          refine wpAnyC_one (i := 15) (by kernel_rfl) rfl (fun K hK => ?_)
          go_simp
          refine hK _ _ ⟨?_, ?_⟩
          · refine ⟨fun p hp => ?_, hq _ B13⟩
            simp at hp
            rcases hp with rfl | rfl | rfl <;> rfl
          clear hK K
          refine wpAnyC_one (i := 17) (by kernel_rfl) rfl (fun K hK => ?_)
          have m0 := y13.cell 0
          have m1 := y13.cell 1
          have m2 := y13.cell 2
          have m3 := y13.cell 3
          have m4 := y13.cell 4
          simp only [List.getElem?_toArray, List.getElem?_cons_zero, List.getElem?_cons_succ] at m0 m1 m2 m3 m4
          have f0 := y13.frozen 0
          have f1 := y13.frozen 1
          have f2 := y13.frozen 2
          have f3 := y13.frozen 3
          have f4 := y13.frozen 4
          go_simp
          have Y := (((((y13.store 0 (.int .u8 (K0 : Int))).store 1 (.int .i64 (N2 : Int))).store 2 (.int .i64 (N4 : Int))).store 3 (.slice a29 K1 c29)).store 4 (.int .i64 (N26 : Int)))
          have C1 := (((((B13.setCell (p := ⟨G, 0, none⟩) hGw (.int .u8 (K0 : Int))).setCell (p := ⟨G, 1, none⟩) hGw (.int .i64 (N2 : Int))).setCell (p := ⟨G, 2, none⟩) hGw (.int .i64 (N4 : Int))).setCell (p := ⟨G, 3, none⟩) hGw (.slice a29 K1 c29)).setCell (p := ⟨G, 4, none⟩) hGw (.int .i64 (N26 : Int)))
          have gg : w13.grownBy (((((w13.setCell ⟨G, 0, none⟩ (.int .u8 (K0 : Int))).setCell ⟨G, 1, none⟩ (.int .i64 (N2 : Int))).setCell ⟨G, 2, none⟩ (.int .i64 (N4 : Int))).setCell ⟨G, 3, none⟩ (.slice a29 K1 c29)).setCell ⟨G, 4, none⟩ (.int .i64 (N26 : Int))) (some G) := (grown_trans (grown_trans (grown_trans (grown_trans (grown_trans (World.grownBy.refl w13 (some G)) (grown_store _ G 0 (.int .u8 (K0 : Int)))) (grown_store _ G 1 (.int .i64 (N2 : Int)))) (grown_store _ G 2 (.int .i64 (N4 : Int)))) (grown_store _ G 3 (.slice a29 K1 c29))) (grown_store _ G 4 (.int .i64 (N26 : Int))))
          have oz := o29.kept gg (.inr (fun h => own_tag o29 y13 (by decide) h.symm))
          have xz : Box (((((w13.setCell ⟨G, 0, none⟩ (.int .u8 (K0 : Int))).setCell ⟨G, 1, none⟩ (.int .i64 (N2 : Int))).setCell ⟨G, 2, none⟩ (.int .i64 (N4 : Int))).setCell ⟨G, 3, none⟩ (.slice a29 K1 c29)).setCell ⟨G, 4, none⟩ (.int .i64 (N26 : Int))) w.heap.size #[.int .u8 0, .int .i64 0, .int .i64 0, .slice none 0 0, .int .i64 0] 32 := (gg.block _ x13.lt (by simp; omega)).trans x13
          refine hK _ _ ⟨?_, ?_⟩
          · refine ⟨fun p hp => ?_, hq _ C1⟩
            simp at hp
            rcases hp with rfl | rfl | rfl <;> rfl
          clear hK K m0 m1 m2 m3 m4 f0 f1 f2 f3 f4
          refine wpAnyC_done (by kernel_rfl) ?_ _
          go_wp2_with fail
          go_meet
          case rel => exact ⟨G, _, rfl, Y, oz, xz, C1⟩
      · skip
        go_simp
        have B16 := Bd.alloc Bd.size (.cells #[.int .u8 0, .int .i64 0, .int .i64 0, .slice none 0 0, .int .i64 0] 32)
        have x16 := xd.alloc (.cells #[.int .u8 0, .int .i64 0, .int .i64 0, .slice none 0 0, .int .i64 0] 32)
        have y16 := Box.new V0 #[.int .u8 0, .int .i64 0, .int .i64 0, .slice none 0 0, .int .i64 0] 32
        refine hK _ _ ⟨?_, ?_⟩
        · refine ⟨fun p hp => ?_, hq _ B16⟩
          simp at hp
          rcases hp with rfl | rfl | rfl <;> rfl
        clear hK K
        obtain ⟨G, hG⟩ : ∃ G, G = V0.heap.size := ⟨_, rfl⟩
        rw [← hG] at y16 ⊢
        obtain ⟨V16, hV⟩ : ∃ V, V = V0.alloc (.cells #[.int .u8 0, .int .i64 0, .int .i64 0, .slice none 0 0, .int .i64 0] 32) := ⟨_, rfl⟩
        rw [← hV] at B16 x16 y16 ⊢
        have hGw : w.heap.size ≤ G := by rw [hG]; exact Bd.size
        have hGlt : w.heap.size < G := by rw [hG]; exact xd.lt
        clear hV hG
        refine wpAnyC_one (i := 6) (by kernel_rfl) rfl (fun K hK => ?_)
        go_simp
        refine (n4 V16 (hr.below B16 (Nat.le_refl _))).mono ?_
        rintro r w17 ⟨rfl, rfl⟩
        refine hK _ _ ⟨?_, ?_⟩
        · refine ⟨fun p hp => ?_, hq _ B16⟩
          simp at hp
          rcases hp with rfl | rfl | rfl <;> rfl
        clear hK K
        refine wpAnyC_one (i := 12) (by kernel_rfl) rfl (fun K hK => ?_)
        go_simp
        refine (r29 V16 (hr.below B16 (Nat.le_refl _))).mono ?_
        rintro r w18 ⟨v29, rfl, o29, b18⟩
        have B18 := B16.trans (b18.mono B16.size)
        have x18 := x16.below b18
        replace o29 := owns_weaken o29 B16.size
        obtain ⟨a29, c29, rfl, _⟩ := ownsE_parts o29
        have y18 := y16.below b18
        refine hK _ _ ⟨?_, ?_⟩
        · refine ⟨fun p hp => ?_, hq _ B18⟩
          simp at hp
          rcases hp with rfl | rfl | rfl <;> rfl
        clear hK K b18
        refine wpAnyC_one (i := 14) (by kernel_rfl) rfl (fun K hK => ?_)
        go_simp
        refine (n26 w18 (hr.below B18 (Nat.le_refl _))).mono ?_
        rintro r w19 ⟨rfl, rfl⟩
        refine hK _ _ ⟨?_, ?_⟩
        · refine ⟨fun p hp => ?_, hq _ B18⟩
          simp at hp
          rcases hp with rfl | rfl | rfl <;> rfl
        clear hK K
        refine wpAnyC_one (i := 15) (by kernel_rfl) rfl (fun K hK => ?_)
        go_simp
        refine hK _ _ ⟨?_, ?_⟩
        · refine ⟨fun p hp => ?_, hq _ B18⟩
          simp at hp
          rcases hp with rfl | rfl | rfl <;> rfl
        clear hK K
        refine wpAnyC_one (i := 17) (by kernel_rfl) rfl (fun K hK => ?_)
        have m0 := y18.cell 0
        have m1 := y18.cell 1
        have m2 := y18.cell 2
        have m3 := y18.cell 3
        have m4 := y18.cell 4
        simp only [List.getElem?_toArray, List.getElem?_cons_zero, List.getElem?_cons_succ] at m0 m1 m2 m3 m4
        have f0 := y18.frozen 0
        have f1 := y18.frozen 1
        have f2 := y18.frozen 2
        have f3 := y18.frozen 3
        have f4 := y18.frozen 4
        go_simp
        have Y := (((((y18.store 0 (.int .u8 (K0 : Int))).store 1 (.int .i64 (N2 : Int))).store 2 (.int .i64 (N4 : Int))).store 3 (.slice a29 K1 c29)).store 4 (.int .i64 (N26 : Int)))
        have C1 := (((((B18.setCell (p := ⟨G, 0, none⟩) hGw (.int .u8 (K0 : Int))).setCell (p := ⟨G, 1, none⟩) hGw (.int .i64 (N2 : Int))).setCell (p := ⟨G, 2, none⟩) hGw (.int .i64 (N4 : Int))).setCell (p := ⟨G, 3, none⟩) hGw (.slice a29 K1 c29)).setCell (p := ⟨G, 4, none⟩) hGw (.int .i64 (N26 : Int)))
        have gg : w18.grownBy (((((w18.setCell ⟨G, 0, none⟩ (.int .u8 (K0 : Int))).setCell ⟨G, 1, none⟩ (.int .i64 (N2 : Int))).setCell ⟨G, 2, none⟩ (.int .i64 (N4 : Int))).setCell ⟨G, 3, none⟩ (.slice a29 K1 c29)).setCell ⟨G, 4, none⟩ (.int .i64 (N26 : Int))) (some G) := (grown_trans (grown_trans (grown_trans (grown_trans (grown_trans (World.grownBy.refl w18 (some G)) (grown_store _ G 0 (.int .u8 (K0 : Int)))) (grown_store _ G 1 (.int .i64 (N2 : Int)))) (grown_store _ G 2 (.int .i64 (N4 : Int)))) (grown_store _ G 3 (.slice a29 K1 c29))) (grown_store _ G 4 (.int .i64 (N26 : Int))))
        have oz := o29.kept gg (.inr (fun h => own_tag o29 y18 (by decide) h.symm))
        have xz : Box (((((w18.setCell ⟨G, 0, none⟩ (.int .u8 (K0 : Int))).setCell ⟨G, 1, none⟩ (.int .i64 (N2 : Int))).setCell ⟨G, 2, none⟩ (.int .i64 (N4 : Int))).setCell ⟨G, 3, none⟩ (.slice a29 K1 c29)).setCell ⟨G, 4, none⟩ (.int .i64 (N26 : Int))) w.heap.size #[.int .u8 0, .int .i64 0, .int .i64 0, .slice none 0 0, .int .i64 0] 32 := (gg.block _ x18.lt (by simp; omega)).trans x18
        refine hK _ _ ⟨?_, ?_⟩
        · refine ⟨fun p hp => ?_, hq _ C1⟩
          simp at hp
          rcases hp with rfl | rfl | rfl <;> rfl
        clear hK K m0 m1 m2 m3 m4 f0 f1 f2 f3 f4
        refine wpAnyC_done (by kernel_rfl) ?_ _
        go_wp2_with fail
        go_meet
        case rel => exact ⟨G, _, rfl, Y, oz, xz, C1⟩
    · skip
      go_simp
      have B21 := Bd.alloc Bd.size (.cells #[.int .u8 0, .int .i64 0, .int .i64 0, .slice none 0 0, .int .i64 0] 32)
      have x21 := xd.alloc (.cells #[.int .u8 0, .int .i64 0, .int .i64 0, .slice none 0 0, .int .i64 0] 32)
      have y21 := Box.new V0 #[.int .u8 0, .int .i64 0, .int .i64 0, .slice none 0 0, .int .i64 0] 32
      refine hK _ _ ⟨?_, ?_⟩
      · refine ⟨fun p hp => ?_, hq _ B21⟩
        simp at hp
        rcases hp with rfl | rfl | rfl <;> rfl
      clear hK K
      obtain ⟨G, hG⟩ : ∃ G, G = V0.heap.size := ⟨_, rfl⟩
      rw [← hG] at y21 ⊢
      obtain ⟨V21, hV⟩ : ∃ V, V = V0.alloc (.cells #[.int .u8 0, .int .i64 0, .int .i64 0, .slice none 0 0, .int .i64 0] 32) := ⟨_, rfl⟩
      rw [← hV] at B21 x21 y21 ⊢
      have hGw : w.heap.size ≤ G := by rw [hG]; exact Bd.size
      have hGlt : w.heap.size < G := by rw [hG]; exact xd.lt
      clear hV hG
      refine wpAnyC_one (i := 4) (by kernel_rfl) rfl (fun K hK => ?_)
      go_simp
      refine (n2 V21 (hr.below B21 (Nat.le_refl _))).mono ?_
      rintro r w22 ⟨rfl, rfl⟩
      refine hK _ _ ⟨?_, ?_⟩
      · refine ⟨fun p hp => ?_, hq _ B21⟩
        simp at hp
        rcases hp with rfl | rfl | rfl <;> rfl
      clear hK K
      refine wpAnyC_one (i := 6) (by kernel_rfl) rfl (fun K hK => ?_)
      go_simp
      refine (n4 V21 (hr.below B21 (Nat.le_refl _))).mono ?_
      rintro r w23 ⟨rfl, rfl⟩
      refine hK _ _ ⟨?_, ?_⟩
      · refine ⟨fun p hp => ?_, hq _ B21⟩
        simp at hp
        rcases hp with rfl | rfl | rfl <;> rfl
      clear hK K
      refine wpAnyC_one (i := 12) (by kernel_rfl) rfl (fun K hK => ?_)
      go_simp
      refine (r29 V21 (hr.below B21 (Nat.le_refl _))).mono ?_
      rintro r w24 ⟨v29, rfl, o29, b24⟩
      have B24 := B21.trans (b24.mono B21.size)
      have x24 := x21.below b24
      replace o29 := owns_weaken o29 B21.size
      obtain ⟨a29, c29, rfl, _⟩ := ownsE_parts o29
      have y24 := y21.below b24
      refine hK _ _ ⟨?_, ?_⟩
      · refine ⟨fun p hp => ?_, hq _ B24⟩
        simp at hp
        rcases hp with rfl | rfl | rfl <;> rfl
      clear hK K b24
      refine wpAnyC_one (i := 14) (by kernel_rfl) rfl (fun K hK => ?_)
      go_simp
      refine (n26 w24 (hr.below B24 (Nat.le_refl _))).mono ?_
      rintro r w25 ⟨rfl, rfl⟩
      refine hK _ _ ⟨?_, ?_⟩
      · refine ⟨fun p hp => ?_, hq _ B24⟩
        simp at hp
        rcases hp with rfl | rfl | rfl <;> rfl
      clear hK K
      refine wpAnyC_one (i := 15) (by kernel_rfl) rfl (fun K hK => ?_)
      go_simp
      refine hK _ _ ⟨?_, ?_⟩
      · refine ⟨fun p hp => ?_, hq _ B24⟩
        simp at hp
        rcases hp with rfl | rfl | rfl <;> rfl
      clear hK K
      refine wpAnyC_one (i := 17) (by kernel_rfl) rfl (fun K hK => ?_)
      have m0 := y24.cell 0
      have m1 := y24.cell 1
      have m2 := y24.cell 2
      have m3 := y24.cell 3
      have m4 := y24.cell 4
      simp only [List.getElem?_toArray, List.getElem?_cons_zero, List.getElem?_cons_succ] at m0 m1 m2 m3 m4
      have f0 := y24.frozen 0
      have f1 := y24.frozen 1
      have f2 := y24.frozen 2
      have f3 := y24.frozen 3
      have f4 := y24.frozen 4
      go_simp
      have Y := (((((y24.store 0 (.int .u8 (K0 : Int))).store 1 (.int .i64 (N2 : Int))).store 2 (.int .i64 (N4 : Int))).store 3 (.slice a29 K1 c29)).store 4 (.int .i64 (N26 : Int)))
      have C1 := (((((B24.setCell (p := ⟨G, 0, none⟩) hGw (.int .u8 (K0 : Int))).setCell (p := ⟨G, 1, none⟩) hGw (.int .i64 (N2 : Int))).setCell (p := ⟨G, 2, none⟩) hGw (.int .i64 (N4 : Int))).setCell (p := ⟨G, 3, none⟩) hGw (.slice a29 K1 c29)).setCell (p := ⟨G, 4, none⟩) hGw (.int .i64 (N26 : Int)))
      have gg : w24.grownBy (((((w24.setCell ⟨G, 0, none⟩ (.int .u8 (K0 : Int))).setCell ⟨G, 1, none⟩ (.int .i64 (N2 : Int))).setCell ⟨G, 2, none⟩ (.int .i64 (N4 : Int))).setCell ⟨G, 3, none⟩ (.slice a29 K1 c29)).setCell ⟨G, 4, none⟩ (.int .i64 (N26 : Int))) (some G) := (grown_trans (grown_trans (grown_trans (grown_trans (grown_trans (World.grownBy.refl w24 (some G)) (grown_store _ G 0 (.int .u8 (K0 : Int)))) (grown_store _ G 1 (.int .i64 (N2 : Int)))) (grown_store _ G 2 (.int .i64 (N4 : Int)))) (grown_store _ G 3 (.slice a29 K1 c29))) (grown_store _ G 4 (.int .i64 (N26 : Int))))
      have oz := o29.kept gg (.inr (fun h => own_tag o29 y24 (by decide) h.symm))
      have xz : Box (((((w24.setCell ⟨G, 0, none⟩ (.int .u8 (K0 : Int))).setCell ⟨G, 1, none⟩ (.int .i64 (N2 : Int))).setCell ⟨G, 2, none⟩ (.int .i64 (N4 : Int))).setCell ⟨G, 3, none⟩ (.slice a29 K1 c29)).setCell ⟨G, 4, none⟩ (.int .i64 (N26 : Int))) w.heap.size #[.int .u8 0, .int .i64 0, .int .i64 0, .slice none 0 0, .int .i64 0] 32 := (gg.block _ x24.lt (by simp; omega)).trans x24
      refine hK _ _ ⟨?_, ?_⟩
      · refine ⟨fun p hp => ?_, hq _ C1⟩
        simp at hp
        rcases hp with rfl | rfl | rfl <;> rfl
      clear hK K m0 m1 m2 m3 m4 f0 f1 f2 f3 f4
      refine wpAnyC_done (by kernel_rfl) ?_ _
      go_wp2_with fail
      go_meet
      case rel => exact ⟨G, _, rfl, Y, oz, xz, C1⟩
  case rest =>
    obtain ⟨G, v29, rfl, Y, oz, xz, C1⟩ := hcut
    obtain ⟨a29, c29, rfl, _, _, _, rE, _, _⟩ := ownsE_parts oz
    have y0 := Y.cell 0
    have y1 := Y.cell 1
    have y2 := Y.cell 2
    have y3 := Y.cell 3
    have y4 := Y.cell 4
    simp only [List.getElem?_toArray, List.getElem?_cons_zero, List.getElem?_cons_succ] at y0 y1 y2 y3 y4
    go_wp2_with fail
    refine (refPutInode_at K0 K1 c29 N2 N4 N26 a29 L wc Hlen.out (by omega) (natE_wf hnat) rE).mono ?_
    rintro r w2 h2'
    clear y0 y1 y2 y3 y4
    rw [hI.out] at hyes hno
    dsimp only at hyes hno
    cases hp : putInode K0 N2 N4 L N26 with
    | none =>
      obtain ⟨v2, rfl, o2, b2⟩ := puts_none h2' hp
      have B2 := C1.trans (b2.mono C1.size)
      have x2 := xz.below b2
      have e : Hid (getInode xs = none) := hno.out (by rw [hp]; simp)
      obtain ⟨a2, c2, rfl, _⟩ := owns_parts o2
      clear o2 b2 h2' hp oz xz C1
      have m0 := x2.cell 0
      have m1 := x2.cell 1
      have m2 := x2.cell 2
      have m3 := x2.cell 3
      have m4 := x2.cell 4
      simp only [List.getElem?_toArray, List.getElem?_cons_zero, List.getElem?_cons_succ] at m0 m1 m2 m3 m4
      have f0 := x2.frozen 0
      have f1 := x2.frozen 1
      have f2 := x2.frozen 2
      have f3 := x2.frozen 3
      have f4 := x2.frozen 4
      go_wp2_with fail
      have Yr := (((((x2.store 0 (.int .u8 0)).store 1 (.int .i64 0)).store 2 (.int .i64 0)).store 3 (.slice none 0 0)).store 4 (.int .i64 0))
      have Cr := (((((B2.setCell (p := ⟨w.heap.size, 0, none⟩) (Nat.le_refl _) (.int .u8 0)).setCell (p := ⟨w.heap.size, 1, none⟩) (Nat.le_refl _) (.int .i64 0)).setCell (p := ⟨w.heap.size, 2, none⟩) (Nat.le_refl _) (.int .i64 0)).setCell (p := ⟨w.heap.size, 3, none⟩) (Nat.le_refl _) (.slice none 0 0)).setCell (p := ⟨w.heap.size, 4, none⟩) (Nat.le_refl _) (.int .i64 0))
      generalize (((((w2.setCell ⟨w.heap.size, 0, none⟩ (.int .u8 0)).setCell ⟨w.heap.size, 1, none⟩ (.int .i64 0)).setCell ⟨w.heap.size, 2, none⟩ (.int .i64 0)).setCell ⟨w.heap.size, 3, none⟩ (.slice none 0 0)).setCell ⟨w.heap.size, 4, none⟩ (.int .i64 0)) = W9 at Yr Cr ⊢
      clear m0 m1 m2 m3 m4 f0 f1 f2 f3 f4
      have m0 := Yr.cell 0
      have m1 := Yr.cell 1
      have m2 := Yr.cell 2
      have m3 := Yr.cell 3
      have m4 := Yr.cell 4
      simp at m0 m1 m2 m3 m4
      refine bodyPost_ret (v := .tuple #[.agg #[.int .u8 0, .int .i64 0, .int .i64 0, .slice none 0 0, .int .i64 0], .int .i64 30]) (by simp [results, Try.results30, go_sem, m0, m1, m2, m3, m4]) rfl ?_
      rw [e.out]
      exact tail_nil w W9 Cr _ false rfl
    | some S =>
      have hS : S.length = 64 := by
        unfold putInode at hp
        cases hu : unusedI K0 N2 N4 L.length N26 with
        | true => rw [hu] at hp; have : noughts 64 = S := by simpa using hp
                  rw [← this]; exact noughts_length 64
        | false =>
          rw [hu] at hp
          obtain ⟨h1, h2⟩ := if_some (by simpa using hp : (if usedI K0 N2 N4 L N26 then some (inodeB K0 ((N2 : Int)).toNat ((N4 : Int)).toNat L ((N26 : Int)).toNat) else none) = some S)
          obtain ⟨_, _, _, h3, _⟩ := usedI_nat h1
          rw [← h2]; exact inodeB_length _ _ _ _ _ h3
      obtain ⟨g2, c2, rfl, o2, _, _, _, _, b2⟩ := puts_block h2' hp hS (by omega)
      have B2 := C1.trans (b2.mono C1.size)
      have x2 := xz.below b2
      have Y2 := Y.below b2
      have r2 := owns_rd_at o2
      have o1' := owns_below oz b2
      have e1 : Hid (S = xs → getInode xs = some ⟨K0, N2, N4, L, N26⟩) := fun h => hyes.out (by rw [hp, h])
      have e2 : Hid (S ≠ xs → getInode xs = none) := fun h => hno.out (by rw [hp]; intro h'; exact h (Option.some.inj h'))
      have HS : Hid _ := hS
      clear o2 b2 h2' hp hS oz xz C1 Y
      go_wp2_with fail
      refine (same_at _ _ 64 64 _ (some ⟨b, o, none⟩) S xs w2 HS.out Hn.out r2 (hr.below B2 (Nat.le_refl _))).mono ?_
      rintro r w' ⟨rfl, rfl⟩
      cases hq : (S == xs) with
      | true =>
        have e : Hid (getInode xs = some ⟨K0, N2, N4, L, N26⟩) := e1.out (by simpa using hq)
        have y0 := Y2.cell 0
        have y1 := Y2.cell 1
        have y2 := Y2.cell 2
        have y3 := Y2.cell 3
        have y4 := Y2.cell 4
        simp only [List.getElem?_toArray, List.getElem?_cons_zero, List.getElem?_cons_succ] at y0 y1 y2 y3 y4
        have m0 := x2.cell 0
        have m1 := x2.cell 1
        have m2 := x2.cell 2
        have m3 := x2.cell 3
        have m4 := x2.cell 4
        simp only [List.getElem?_toArray, List.getElem?_cons_zero, List.getElem?_cons_succ] at m0 m1 m2 m3 m4
        have f0 := x2.frozen 0
        have f1 := x2.frozen 1
        have f2 := x2.frozen 2
        have f3 := x2.frozen 3
        have f4 := x2.frozen 4
        go_wp2_with fail
        have Yr := (((((x2.store 0 (.int .u8 (K0 : Int))).store 1 (.int .i64 (N2 : Int))).store 2 (.int .i64 (N4 : Int))).store 3 (.slice a29 K1 c29)).store 4 (.int .i64 (N26 : Int)))
        have Cr := (((((B2.setCell (p := ⟨w.heap.size, 0, none⟩) (Nat.le_refl _) (.int .u8 (K0 : Int))).setCell (p := ⟨w.heap.size, 1, none⟩) (Nat.le_refl _) (.int .i64 (N2 : Int))).setCell (p := ⟨w.heap.size, 2, none⟩) (Nat.le_refl _) (.int .i64 (N4 : Int))).setCell (p := ⟨w.heap.size, 3, none⟩) (Nat.le_refl _) (.slice a29 K1 c29)).setCell (p := ⟨w.heap.size, 4, none⟩) (Nat.le_refl _) (.int .i64 (N26 : Int)))
        have gr : w2.grownBy (((((w2.setCell ⟨w.heap.size, 0, none⟩ (.int .u8 (K0 : Int))).setCell ⟨w.heap.size, 1, none⟩ (.int .i64 (N2 : Int))).setCell ⟨w.heap.size, 2, none⟩ (.int .i64 (N4 : Int))).setCell ⟨w.heap.size, 3, none⟩ (.slice a29 K1 c29)).setCell ⟨w.heap.size, 4, none⟩ (.int .i64 (N26 : Int))) (some w.heap.size) := (grown_trans (grown_trans (grown_trans (grown_trans (grown_trans (World.grownBy.refl w2 (some w.heap.size)) (grown_store _ w.heap.size 0 (.int .u8 (K0 : Int)))) (grown_store _ w.heap.size 1 (.int .i64 (N2 : Int)))) (grown_store _ w.heap.size 2 (.int .i64 (N4 : Int)))) (grown_store _ w.heap.size 3 (.slice a29 K1 c29))) (grown_store _ w.heap.size 4 (.int .i64 (N26 : Int))))
        have ozr := o1'.kept gr (.inr (fun h => own_tag o1' x2 (by decide) h.symm))
        clear gr
        generalize (((((w2.setCell ⟨w.heap.size, 0, none⟩ (.int .u8 (K0 : Int))).setCell ⟨w.heap.size, 1, none⟩ (.int .i64 (N2 : Int))).setCell ⟨w.heap.size, 2, none⟩ (.int .i64 (N4 : Int))).setCell ⟨w.heap.size, 3, none⟩ (.slice a29 K1 c29)).setCell ⟨w.heap.size, 4, none⟩ (.int .i64 (N26 : Int))) = W9 at Yr Cr ozr ⊢
        clear m0 m1 m2 m3 m4 f0 f1 f2 f3 f4
        have m0 := Yr.cell 0
        have m1 := Yr.cell 1
        have m2 := Yr.cell 2
        have m3 := Yr.cell 3
        have m4 := Yr.cell 4
        simp at m0 m1 m2 m3 m4
        refine bodyPost_ret (v := .tuple #[.agg #[.int .u8 (K0 : Int), .int .i64 (N2 : Int), .int .i64 (N4 : Int), .slice a29 K1 c29, .int .i64 (N26 : Int)], .int .i64 0]) (by simp [results, Try.results30, go_sem, m0, m1, m2, m3, m4]) rfl ?_
        rw [e.out]
        refine ⟨.slice a29 K1 c29, rfl, ?_, Cr⟩
        show World.ownsRow _ _ _ _ _ L.length (ecs L)
        rw [Hlen.out]
        exact ozr
      | false =>
        have e : Hid (getInode xs = none) := e2.out (by simpa using hq)
        have m0 := x2.cell 0
        have m1 := x2.cell 1
        have m2 := x2.cell 2
        have m3 := x2.cell 3
        have m4 := x2.cell 4
        simp only [List.getElem?_toArray, List.getElem?_cons_zero, List.getElem?_cons_succ] at m0 m1 m2 m3 m4
        have f0 := x2.frozen 0
        have f1 := x2.frozen 1
        have f2 := x2.frozen 2
        have f3 := x2.frozen 3
        have f4 := x2.frozen 4
        go_wp2_with fail
        have Yr := (((((x2.store 0 (.int .u8 0)).store 1 (.int .i64 0)).store 2 (.int .i64 0)).store 3 (.slice none 0 0)).store 4 (.int .i64 0))
        have Cr := (((((B2.setCell (p := ⟨w.heap.size, 0, none⟩) (Nat.le_refl _) (.int .u8 0)).setCell (p := ⟨w.heap.size, 1, none⟩) (Nat.le_refl _) (.int .i64 0)).setCell (p := ⟨w.heap.size, 2, none⟩) (Nat.le_refl _) (.int .i64 0)).setCell (p := ⟨w.heap.size, 3, none⟩) (Nat.le_refl _) (.slice none 0 0)).setCell (p := ⟨w.heap.size, 4, none⟩) (Nat.le_refl _) (.int .i64 0))
        generalize (((((w2.setCell ⟨w.heap.size, 0, none⟩ (.int .u8 0)).setCell ⟨w.heap.size, 1, none⟩ (.int .i64 0)).setCell ⟨w.heap.size, 2, none⟩ (.int .i64 0)).setCell ⟨w.heap.size, 3, none⟩ (.slice none 0 0)).setCell ⟨w.heap.size, 4, none⟩ (.int .i64 0)) = W9 at Yr Cr ⊢
        clear m0 m1 m2 m3 m4 f0 f1 f2 f3 f4
        have m0 := Yr.cell 0
        have m1 := Yr.cell 1
        have m2 := Yr.cell 2
        have m3 := Yr.cell 3
        have m4 := Yr.cell 4
        simp at m0 m1 m2 m3 m4
        refine bodyPost_ret (v := .tuple #[.agg #[.int .u8 0, .int .i64 0, .int .i64 0, .slice none 0 0, .int .i64 0], .int .i64 30]) (by simp [results, Try.results30, go_sem, m0, m1, m2, m3, m4]) rfl ?_
        rw [e.out]
        exact tail_nil w W9 Cr _ false rfl

/-- the document's GetInode is super's -/
theorem refGetInode_at (n cap : Nat) (a : Option Addr) (xs : List UInt8) (w : World) (hn : xs.length = n) (hr : Rd w a xs) :
    Calls Try.prog 30 #[.slice a n cap] w fun r w' => GetsI w w' (getInode xs) r := by
  by_cases h : n = 64 ∧ num xs 1 1 ≤ 3
  · obtain ⟨rfl, h⟩ := h
    obtain ⟨b, o, rfl, _⟩ := hr (by omega)
    exact refGetInode_in b o cap xs w hn hr h
  · rw [getInode_len (by rw [hn]; exact h)]
    exact refGetInode_off n cap a xs w hn hr h
end Go.Proofs.Ytmhplpiglbamcaa
