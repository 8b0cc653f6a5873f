/-
  The document's own PutInode.
-/
import Derived.Test.YtmhplpiglbamcaaRefNode
namespace Go.Proofs.Ytmhplpiglbamcaa
open Go.RowKit

section
variable {P : Program} {ops : Array Oper} {Q : Exit → Act → World → Prop} {md : Region.Mode}
theorem wpAnyC_mono {C C' : Act → World → Prop} (hC : ∀ a w, C' a w → C a w) : ∀ (fuel : Nat) (listed : Array Bool) (a : Act) (w : World), wpAnyC P md ops Q C' fuel listed a w → wpAnyC P md ops Q C fuel listed a w
  | 0, _, _, _, h => h
  | fuel + 1, _, _, _, h => ⟨h.1, fun i hi => wpOp_mono (fun a' w' h' => ⟨hC _ _ h'.1, wpAnyC_mono hC fuel _ a' w' h'.2⟩) (h.2 i hi)⟩
end

theorem Box.alloc {w : World} {g : Nat} {cs : Array Value} {t : TypeId} (h : Box w g cs t) (o : Obj) : Box (w.alloc o) g cs t := (Below.heap_alloc w o g h.lt).trans h
theorem Box.grown32 {w u : World} {B n Q : Nat} {v : Value} {xs : List Value} {cs : Array Value} (x : Box w Q cs 32) (h : w.ownsRow B 5 1 v n xs) (hg : w.grownBy u v.ownBlock) : Box u Q cs 32 := (hg.block _ x.lt (fun e => own_ne32 h x _ e.symm rfl)).trans x

theorem putInode_zero (l s d : Int) (es : List Ext) (h : ¬ (l = 0 ∧ s = 0 ∧ es.length = 0 ∧ d = 0)) : putInode 0 l s es d = none := by
  have h1 : unusedI 0 l s es.length d = false := by
    cases hq : unusedI 0 l s es.length d with
    | false => rfl
    | true =>
      exfalso
      simp only [unusedI, Bool.and_eq_true, beq_iff_eq] at hq
      exact h ⟨hq.2.1, hq.2.2.1, by omega, hq.2.2.2.2⟩
  have h2 : usedI 0 l s es d = false := by simp [usedI]
  unfold putInode
  rw [h1, h2]
  rfl
theorem putInode_not (k : Nat) (l s d : Int) (es : List Ext) (hk : k ≠ 0) (h : usedI k l s es d = false) : putInode k l s es d = none := by
  have h1 : unusedI k l s es.length d = false := by
    cases hq : unusedI k l s es.length d with
    | false => rfl
    | true =>
      exfalso
      simp only [unusedI, Bool.and_eq_true, beq_iff_eq] at hq
      omega
  unfold putInode
  rw [h1, h]
  rfl
theorem putInode_yes (k : Nat) (l s d : Int) (es : List Ext) (hk : k ≠ 0) (h : usedI k l s es d = true) : putInode k l s es d = some (inodeB k l.toNat s.toNat es d.toNat) := by
  have h1 : unusedI k l s es.length d = false := by
    cases hq : unusedI k l s es.length d with
    | false => rfl
    | true =>
      exfalso
      simp only [unusedI, Bool.and_eq_true, beq_iff_eq] at hq
      omega
  unfold putInode
  rw [h1, h]
  rfl
theorem usedI_false (k : Nat) (l s d : Int) (es : List Ext) (h : ¬ ((k = 1 ∨ k = 2) ∧ (0 ≤ l ∧ l ≤ 100) ∧ (0 ≤ s ∧ s ≤ 131072) ∧ es.length ≤ 3 ∧ (0 ≤ d ∧ d ≤ 511))) : usedI k l s es d = false := by
  cases hq : usedI k l s es d with
  | false => rfl
  | true =>
    obtain ⟨h1, h2, h3, h4, _, h6⟩ := usedI_nat hq
    exact absurd ⟨h1, h2, h3, h4, h6⟩ h
theorem usedI_right (k : Nat) (l s d : Int) (es : List Ext) (h : rightFrom 0 es = false) : usedI k l s es d = false := by
  simp [usedI, h]
theorem usedI_true (k : Nat) (l s d : Int) (es : List Ext) (h : (k = 1 ∨ k = 2) ∧ (0 ≤ l ∧ l ≤ 100) ∧ (0 ≤ s ∧ s ≤ 131072) ∧ es.length ≤ 3 ∧ (0 ≤ d ∧ d ≤ 511)) (hr : rightFrom 0 es = true) : usedI k l s es d = true := by
  simp [usedI, wi, hr]
  omega

theorem refPutInode_zero (n cap : Nat) (l s d : Int) (a : Option Addr) (w : World) (h : ¬ (l = 0 ∧ s = 0 ∧ n = 0 ∧ d = 0)) :
    Calls Try.prog 23 #[.agg #[.int .u8 0, .int .i64 l, .int .i64 s, .slice a n cap, .int .i64 d]] w fun r w' => Puts w w' none r := by
  have B0 := (Below.refl w.heap.size w).alloc (Nat.le_refl _) (.cells #[.int .u8 0, .int .i64 l, .int .i64 s, .slice a n cap, .int .i64 d] 32)
  by_cases h1 : l = 0
  · subst h1
    by_cases h2 : s = 0
    · subst h2
      by_cases h3 : d = 0
      · subst h3
        have h4 : ((n : Int) != 0) = true := by simp; omega
        go_enter Try.func23, Try.ntmps23
        go_wp2
        go_ret2
        exact ⟨_, rfl, World.ownsRow_nil _ _ _ _, B0⟩
      · have h3' : (d != 0) = true := by simpa using h3
        clear h
        go_enter Try.func23, Try.ntmps23
        go_wp2
        go_ret2
        exact ⟨_, rfl, World.ownsRow_nil _ _ _ _, B0⟩
    · have h2' : (s != 0) = true := by simpa using h2
      clear h
      go_enter Try.func23, Try.ntmps23
      go_wp2
      go_ret2
      exact ⟨_, rfl, World.ownsRow_nil _ _ _ _, B0⟩
  · have h1' : (l != 0) = true := by simpa using h1
    clear h
    go_enter Try.func23, Try.ntmps23
    go_wp2
    go_ret2
    exact ⟨_, rfl, World.ownsRow_nil _ _ _ _, B0⟩

theorem refPutInode_unused (cap : Nat) (a : Option Addr) (w : World) :
    Calls Try.prog 23 #[.agg #[.int .u8 0, .int .i64 0, .int .i64 0, .slice a 0 cap, .int .i64 0]] w fun r w' => Puts w w' (some (noughts 64)) r := by
  have B0 := (Below.refl w.heap.size w).alloc (Nat.le_refl _) (.cells #[.int .u8 0, .int .i64 0, .int .i64 0, .slice a 0 cap, .int .i64 0] 32)
  obtain ⟨i0, hi, hz0, hz1, hz2⟩ := info_parts info5
  have hmk : ∀ u : World, (Instr.makeSlice 22 (.int .i64 64) (.int .i64 64)).run Try.prog u =
      .ok (.slice (some ⟨u.heap.size, 0, none⟩) 64 64) (u.alloc (.cells (bcs (noughts 64)).toArray 5)) := fun u => by
    have h := run_make (P := Try.prog) u 22 5 i0 (.int .u8 0) Try.underlying22 hi hz0 .i64 .i64 64 64 (by omega) (by omega) (by rw [hz2]; omega) (by omega)
    have e : madeCells #[.int .u8 0] 64 = (bcs (noughts 64)).toArray := made_zero 64
    rw [← e]
    simpa [hz1, Value.cells] using h
  have own : ∀ w1 : World, w.heap.size ≤ w1.heap.size → (w1.alloc (.cells (bcs (noughts 64)).toArray 5)).ownsRow w.heap.size 5 1 (.slice (some ⟨w1.heap.size, 0, none⟩) 64 64) 64 (bcs (noughts 64)) := fun w1 z1 => Own.owns (own_lit w1 (noughts 64)) z1 (noughts_length _) (by omega)
  have z0 := B0.size
  have B2 := B0.alloc z0 (.cells (bcs (noughts 64)).toArray 5)
  have own0 := own _ z0
  obtain ⟨W, hW⟩ : ∃ W, W = w.alloc (.cells #[.int .u8 0, .int .i64 0, .int .i64 0, .slice a 0 cap, .int .i64 0] 32) := ⟨_, rfl⟩
  rw [← hW] at B2 own0
  have hs : W.heap.size = w.heap.size + 1 := by rw [hW]; simp
  rw [hs] at own0
  generalize hO : (Obj.cells (bcs (noughts 64)).toArray 5) = O at hmk own0 B2
  clear own z0 B0 hs
  have HW : Hid _ := hW
  clear hW
  go_enter Try.func23, Try.ntmps23
  go_wp2_with fail
  rw [← HW.out]
  go_wp2
  go_ret2
  refine ⟨_, rfl, ?_, B2⟩
  show World.ownsRow _ _ _ _ _ (noughts 64).length (bcs (noughts 64))
  rw [noughts_length]
  exact own0

set_option maxRecDepth 100000 in
set_option maxHeartbeats 1000000 in
theorem refPutInode_bad (k n cap : Nat) (l s d : Int) (a : Option Addr) (w : World) (hk : k ≠ 0) (hn : n ≤ 9223372036854775807) (h : ¬ ((k = 1 ∨ k = 2) ∧ (0 ≤ l ∧ l ≤ 100) ∧ (0 ≤ s ∧ s ≤ 131072) ∧ n ≤ 3 ∧ (0 ≤ d ∧ d ≤ 511))) :
    Calls Try.prog 23 #[.agg #[.int .u8 (k : Int), .int .i64 l, .int .i64 s, .slice a n cap, .int .i64 d]] w fun r w' => Puts w w' none r := by
  have B0 := (Below.refl w.heap.size w).alloc (Nat.le_refl _) (.cells #[.int .u8 (k : Int), .int .i64 l, .int .i64 s, .slice a n cap, .int .i64 d] 32)
  have hk0 : ((k : Int) == 0) = false := by simpa using hk
  by_cases h1 : 2 < (k : Int)
  · go_enter Try.func23, Try.ntmps23
    go_wp2_with fail
    go_ret2
    exact ⟨_, rfl, World.ownsRow_nil _ _ _ _, B0⟩
  · go_enter Try.func23, Try.ntmps23
    go_wp2_with fail
    all_goals first
      | (exfalso; omega)
      | (go_ret2; exact ⟨_, rfl, World.ownsRow_nil _ _ _ _, B0⟩)

set_option maxRecDepth 100000 in
set_option maxHeartbeats 1000000 in
theorem refPutInode_wrong (k n cap l s d : Nat) (a : Option Addr) (es : List Ext) (w : World) (hk : k = 1 ∨ k = 2) (h1 : l ≤ 100) (h2 : s ≤ 131072) (h3 : n ≤ 3) (h4 : d ≤ 511) (hl : es.length = n) (hw : ∀ e ∈ es, wfE e) (hr : RdE w a es) (hq : rightFrom 0 es = false) :
    Calls Try.prog 23 #[.agg #[.int .u8 (k : Int), .int .i64 (l : Int), .int .i64 (s : Int), .slice a n cap, .int .i64 (d : Int)]] w fun r w' => Puts w w' none r := by
  have B0 := (Below.refl w.heap.size w).alloc (Nat.le_refl _) (.cells #[.int .u8 (k : Int), .int .i64 (l : Int), .int .i64 (s : Int), .slice a n cap, .int .i64 (d : Int)] 32)
  have c1 := refRight_at cap n a es _ hl (by omega) hw (hr.below B0 (Nat.le_refl _))
  rw [hq] at c1
  clear hl
  have hk0 : ((k : Int) == 0) = false := by simp; omega
  go_enter Try.func23, Try.ntmps23
  go_wp2_with fail
  refine c1.mono ?_
  rintro r w1 ⟨rfl, b1⟩
  have B1 := B0.trans (b1.mono B0.size)
  go_wp2
  go_ret2
  exact ⟨_, rfl, World.ownsRow_nil _ _ _ _, B1⟩

set_option maxRecDepth 100000 in
set_option maxHeartbeats 4000000 in
theorem refPutInode_ok (k n cap l s d : Nat) (a : Option Addr) (es : List Ext) (w : World) (hk : k = 1 ∨ k = 2) (h1 : l ≤ 100) (h2 : s ≤ 131072) (h3 : n ≤ 3) (h4 : d ≤ 511) (hl : es.length = n) (hw : ∀ e ∈ es, wfE e) (hr : RdE w a es) (hq : rightFrom 0 es = true) :
    Calls Try.prog 23 #[.agg #[.int .u8 (k : Int), .int .i64 (l : Int), .int .i64 (s : Int), .slice a n cap, .int .i64 (d : Int)]] w fun r w' => Puts w w' (some (inodeB k l s es d)) r := by
  have B0 := (Below.refl w.heap.size w).alloc (Nat.le_refl _) (.cells #[.int .u8 (k : Int), .int .i64 (l : Int), .int .i64 (s : Int), .slice a n cap, .int .i64 (d : Int)] 32)
  have bx := Box.new w #[.int .u8 (k : Int), .int .i64 (l : Int), .int .i64 (s : Int), .slice a n cap, .int .i64 (d : Int)] 32
  have hnat := natE_of_right es 0 (by omega) hq
  have c1 := refRight_at cap n a es _ hl (by omega) hw (hr.below B0 (Nat.le_refl _))
  rw [hq] at c1
  have Hi : Hid ((inodeB k l s es d).length = 64) := inodeB_length k l s es d (by omega)
  have hxl : Hid ((extsB es).length = n * 6) := by rw [← hl]; exact extsB_length es
  obtain ⟨L1, hL1⟩ : ∃ L, L = [] ++ toBE 1 k := ⟨_, rfl⟩
  obtain ⟨L2, hL2⟩ : ∃ L, L = L1 ++ toBE 1 n := ⟨_, rfl⟩
  obtain ⟨L3, hL3⟩ : ∃ L, L = L2 ++ toBE 2 l := ⟨_, rfl⟩
  obtain ⟨L4, hL4⟩ : ∃ L, L = L3 ++ toBE 4 s := ⟨_, rfl⟩
  obtain ⟨L5, hL5⟩ : ∃ L, L = L4 ++ extsB es := ⟨_, rfl⟩
  obtain ⟨L6, hL6⟩ : ∃ L, L = L5 ++ noughts (26 - (8 + n * 6)) := ⟨_, rfl⟩
  obtain ⟨L7, hL7⟩ : ∃ L, L = L6 ++ toBE 2 d := ⟨_, rfl⟩
  obtain ⟨L8, hL8⟩ : ∃ L, L = L7 ++ noughts 32 := ⟨_, rfl⟩
  have N1 : Hid (L1.length = 1) := by rw [hL1]; exact toBE_length 1 k
  have N2 : Hid (L2.length = 2) := by rw [hL2, List.length_append, toBE_length, N1.out]; exact rfl
  have N3 : Hid (L3.length = 4) := by rw [hL3, List.length_append, toBE_length, N2.out]; exact rfl
  have N4 : Hid (L4.length = 8) := by rw [hL4, List.length_append, toBE_length, N3.out]; exact rfl
  have N5 : Hid (L5.length = 8 + n * 6) := by rw [hL5, List.length_append, hxl.out, N4.out]; exact rfl
  have N6 : Hid (L6.length = 26) := by rw [hL6, List.length_append, noughts_length, N5.out]; show _ = _; omega
  have N7 : Hid (L7.length = 28) := by rw [hL7, List.length_append, toBE_length, N6.out]; exact rfl
  have N8 : Hid (L8.length = 60) := by rw [hL8, List.length_append, noughts_length, N7.out]; exact rfl
  have E8 : Hid (inodeB k l s es d = L8 ++ toBE 4 (crc 0 L8)) := by
    have e : L8 = headI k l s es d ++ noughts 32 := by rw [hL8, hL7, hL6, hL5, hL4, hL3, hL2, hL1, ← hl]; rfl
    rw [e]; exact rfl
  have U1 : Hid _ := hL1
  have U2 : Hid _ := hL2
  have U3 : Hid _ := hL3
  have U4 : Hid _ := hL4
  have U5 : Hid _ := hL5
  have U6 : Hid _ := hL6
  have U7 : Hid _ := hL7
  have U8 : Hid _ := hL8
  have Hl : Hid _ := hl
  clear hL1 hL2 hL3 hL4 hL5 hL6 hL7 hL8 hl
  have hk0 : ((k : Int) == 0) = false := by simp; omega
  have hwk : IntKind.i64.wrap (k : Int) = k := by rw [IntKind.wrap_i64]; omega
  obtain ⟨i0, hi, hz0, hz1, hz2⟩ := info_parts info5
  go_enter Try.func23, Try.ntmps23
  go_wp2_with fail
  refine c1.mono ?_
  rintro r W ⟨rfl, b1⟩
  have B1 := B0.trans (b1.mono B0.size)
  have x0 := bx.below b1
  clear bx b1 B0 c1
  go_wp2_with fail
  refine wp_region_any (by kernel_rfl) ?_
  change wpAny _ _ _ _ _ _ _ (World.drew _)
  refine wpAny_take (i := 0) (v := ?_) rfl (by kernel_rfl) (by kernel_rfl) (by kernel_rfl) (fun _ _ _ h => h) (Or.inl ⟨by rfl, ?_⟩) ?_
  rotate_left
  · intro w
    go_simp
    with_reducible rfl
  refine wpAny_take (i := 4) (v := ?_) rfl (by kernel_rfl) (by kernel_rfl) (by kernel_rfl) (fun _ _ _ h => h) (Or.inl ⟨by rfl, ?_⟩) ?_
  rotate_left
  · intro w
    go_simp
    with_reducible rfl
  refine wpAny_take (i := 8) (v := ?_) rfl (by kernel_rfl) (by kernel_rfl) (by kernel_rfl) (fun _ _ _ h => h) (Or.inl ⟨by rfl, ?_⟩) ?_
  rotate_left
  · intro w
    go_simp
    with_reducible rfl
  refine wpAny_take (i := 11) (v := ?_) rfl (by kernel_rfl) (by kernel_rfl) (by kernel_rfl) (fun _ _ _ h => h) (Or.inl ⟨by rfl, ?_⟩) ?_
  rotate_left
  · intro w
    go_simp
    with_reducible rfl
  simp only [Act.put, List.setIfInBounds_toArray, List.set_cons_zero, List.set_cons_succ, List.getElem_toArray, List.getElem_cons_zero, List.getElem_cons_succ]
  refine wpAny_of_class (C := SlotsBox [(73, .pointer (some ⟨w.heap.size, 0, none⟩)), (77, .pointer (some ⟨w.heap.size, 3, none⟩)), (81, .pointer (some ⟨w.heap.size, 1, none⟩)), (84, .pointer (some ⟨w.heap.size, 2, none⟩))] w.heap.size #[.int .u8 (k : Int), .int .i64 (l : Int), .int .i64 (s : Int), .slice a n cap, .int .i64 (d : Int)] 32) _ _ _ _ ?_
  have hC0 : Box W.drew w.heap.size #[.int .u8 (k : Int), .int .i64 (l : Int), .int .i64 (s : Int), .slice a n cap, .int .i64 (d : Int)] 32 := x0
  refine wpAnyC_take (i := 1) (v := .int .u8 (k : Int)) rfl (by kernel_rfl) (by kernel_rfl) (by kernel_rfl) (fun _ _ _ h => h) ?_ (fun fr u h => (SlotsBox.put 74 _ (by rfl)).1 h) (fun fr u h => (SlotsBox.put 74 _ (by rfl)).2 h) ?_ ?_
  · rintro fr u ⟨hs, hx⟩
    have h1 := hs (73, .pointer (some ⟨w.heap.size, 0, none⟩)) (by simp)
    replace h1 : fr.tmps[73]?.getD undef = .pointer (some ⟨w.heap.size, 0, none⟩) := by simpa [Act.eval] using h1
    have c := hx.cell 0
    simp at c
    exact ⟨rfl, by simp [execOp, h1, go_sem, c]⟩
  · refine ⟨fun p hp => ?_, hC0⟩
    simp at hp
    rcases hp with rfl | rfl | rfl | rfl <;> rfl
  simp only [Act.put, List.setIfInBounds_toArray, List.set_cons_zero, List.set_cons_succ, List.getElem_toArray, List.getElem_cons_zero, List.getElem_cons_succ]
  refine wpAnyC_take (i := 5) (v := .slice a n cap) rfl (by kernel_rfl) (by kernel_rfl) (by kernel_rfl) (fun _ _ _ h => h) ?_ (fun fr u h => (SlotsBox.put 78 _ (by rfl)).1 h) (fun fr u h => (SlotsBox.put 78 _ (by rfl)).2 h) ?_ ?_
  · rintro fr u ⟨hs, hx⟩
    have h1 := hs (77, .pointer (some ⟨w.heap.size, 3, none⟩)) (by simp)
    replace h1 : fr.tmps[77]?.getD undef = .pointer (some ⟨w.heap.size, 3, none⟩) := by simpa [Act.eval] using h1
    have c := hx.cell 3
    simp at c
    exact ⟨rfl, by simp [execOp, h1, go_sem, c]⟩
  · refine ⟨fun p hp => ?_, hC0⟩
    simp at hp
    rcases hp with rfl | rfl | rfl | rfl <;> rfl
  simp only [Act.put, List.setIfInBounds_toArray, List.set_cons_zero, List.set_cons_succ, List.getElem_toArray, List.getElem_cons_zero, List.getElem_cons_succ]
  refine wpAnyC_take (i := 9) (v := .int .i64 (l : Int)) rfl (by kernel_rfl) (by kernel_rfl) (by kernel_rfl) (fun _ _ _ h => h) ?_ (fun fr u h => (SlotsBox.put 82 _ (by rfl)).1 h) (fun fr u h => (SlotsBox.put 82 _ (by rfl)).2 h) ?_ ?_
  · rintro fr u ⟨hs, hx⟩
    have h1 := hs (81, .pointer (some ⟨w.heap.size, 1, none⟩)) (by simp)
    replace h1 : fr.tmps[81]?.getD undef = .pointer (some ⟨w.heap.size, 1, none⟩) := by simpa [Act.eval] using h1
    have c := hx.cell 1
    simp at c
    exact ⟨rfl, by simp [execOp, h1, go_sem, c]⟩
  · refine ⟨fun p hp => ?_, hC0⟩
    simp at hp
    rcases hp with rfl | rfl | rfl | rfl <;> rfl
  simp only [Act.put, List.setIfInBounds_toArray, List.set_cons_zero, List.set_cons_succ, List.getElem_toArray, List.getElem_cons_zero, List.getElem_cons_succ]
  refine wpAnyC_take (i := 12) (v := .int .i64 (s : Int)) rfl (by kernel_rfl) (by kernel_rfl) (by kernel_rfl) (fun _ _ _ h => h) ?_ (fun fr u h => (SlotsBox.put 85 _ (by rfl)).1 h) (fun fr u h => (SlotsBox.put 85 _ (by rfl)).2 h) ?_ ?_
  · rintro fr u ⟨hs, hx⟩
    have h1 := hs (84, .pointer (some ⟨w.heap.size, 2, none⟩)) (by simp)
    replace h1 : fr.tmps[84]?.getD undef = .pointer (some ⟨w.heap.size, 2, none⟩) := by simpa [Act.eval] using h1
    have c := hx.cell 2
    simp at c
    exact ⟨rfl, by simp [execOp, h1, go_sem, c]⟩
  · refine ⟨fun p hp => ?_, hC0⟩
    simp at hp
    rcases hp with rfl | rfl | rfl | rfl <;> rfl
  simp only [Act.put, List.setIfInBounds_toArray, List.set_cons_zero, List.set_cons_succ, List.getElem_toArray, List.getElem_cons_zero, List.getElem_cons_succ]
  refine wpAnyC_mono (C' := SlotsBox [(73, .pointer (some ⟨w.heap.size, 0, none⟩)), (77, .pointer (some ⟨w.heap.size, 3, none⟩)), (81, .pointer (some ⟨w.heap.size, 1, none⟩)), (84, .pointer (some ⟨w.heap.size, 2, none⟩)), (74, .int .u8 (k : Int)), (78, .slice a n cap)] w.heap.size #[.int .u8 (k : Int), .int .i64 (l : Int), .int .i64 (s : Int), .slice a n cap, .int .i64 (d : Int)] 32) (fun fr u h => ⟨fun p hp => h.1 p (by simp at hp ⊢; rcases hp with rfl | rfl | rfl | rfl <;> simp), h.2⟩) _ _ _ _ ?_
  refine wpAnyC_take (i := 2) (v := .int .i64 (k : Int)) rfl (by kernel_rfl) (by kernel_rfl) (by kernel_rfl) (fun _ _ _ h => h) ?_ (fun fr u h => (SlotsBox.put 75 _ (by rfl)).1 h) (fun fr u h => (SlotsBox.put 75 _ (by rfl)).2 h) ?_ ?_
  · rintro fr u ⟨hs, hx⟩
    have h1 := hs (74, .int .u8 (k : Int)) (by simp)
    replace h1 : fr.tmps[74]?.getD undef = .int .u8 (k : Int) := by simpa [Act.eval] using h1
    refine ⟨rfl, ?_⟩
    simp only [execOp, Act.eval, Array.getD_eq_getD_getElem?]
    go_simp
  · refine ⟨fun p hp => ?_, hC0⟩
    simp at hp
    rcases hp with rfl | rfl | rfl | rfl | rfl | rfl <;> rfl
  simp only [Act.put, List.setIfInBounds_toArray, List.set_cons_zero, List.set_cons_succ, List.getElem_toArray, List.getElem_cons_zero, List.getElem_cons_succ]
  refine wpAnyC_take (i := 6) (v := .int .i64 (n : Int)) rfl (by kernel_rfl) (by kernel_rfl) (by kernel_rfl) (fun _ _ _ h => h) ?_ (fun fr u h => (SlotsBox.put 79 _ (by rfl)).1 h) (fun fr u h => (SlotsBox.put 79 _ (by rfl)).2 h) ?_ ?_
  · rintro fr u ⟨hs, hx⟩
    have h1 := hs (78, .slice a n cap) (by simp)
    replace h1 : fr.tmps[78]?.getD undef = .slice a n cap := by simpa [Act.eval] using h1
    refine ⟨rfl, ?_⟩
    simp only [execOp, Act.eval, Array.getD_eq_getD_getElem?]
    go_simp
  · refine ⟨fun p hp => ?_, hC0⟩
    simp at hp
    rcases hp with rfl | rfl | rfl | rfl | rfl | rfl <;> rfl
  simp only [Act.put, List.setIfInBounds_toArray, List.set_cons_zero, List.set_cons_succ, List.getElem_toArray, List.getElem_cons_zero, List.getElem_cons_succ]
  have B1d : Below w.heap.size w W.drew := B1.drew
  obtain ⟨V0, hV⟩ : ∃ V, V = W.drew := ⟨_, rfl⟩
  rw [← hV] at hC0 B1d ⊢
  clear hV B1 x0
  refine wpAnyC_one (i := 3) (by kernel_rfl) rfl (fun K hK => ?_)
  go_simp
  refine (refadd_at 0 0 1 none [] k _ 1 V0 rfl rfl rfl (by omega) (by omega) (by omega) (by omega) (Rd.nil _ _) (fun _ => rfl)).mono ?_
  rintro r w1 ⟨v1, rfl, o1, b1⟩
  rw [← U1.out] at o1
  have B1' := B1d.trans (b1.mono B1d.size)
  have x1 := hC0.below b1
  have o1' := owns_weaken o1 B1d.size
  obtain ⟨a1, c1, rfl, _, _, _, r1, n1, _⟩ := owns_parts o1
  refine hK _ _ ⟨?_, ?_⟩
  · refine ⟨fun p hp => ?_, x1⟩
    simp at hp
    rcases hp with rfl | rfl | rfl | rfl | rfl | rfl <;> rfl
  clear hK K b1 o1 B1d hC0
  clear o1'
  refine wpAnyC_one (i := 7) (by kernel_rfl) rfl (fun K hK => ?_)
  go_simp
  refine (refadd_at c1 1 1 a1 L1 n _ 1 w1 rfl rfl N1.out (by omega) (by omega) (by omega) (by omega) r1 n1).mono ?_
  rintro r w2 ⟨v2, rfl, o2, b2⟩
  rw [← U2.out] at o2
  have B2' := B1'.trans (b2.mono B1'.size)
  have x2 := x1.below b2
  have o2' := owns_weaken o2 B1'.size
  obtain ⟨a2, c2, rfl, _, _, _, r2, n2, _⟩ := owns_parts o2
  refine hK _ _ ⟨?_, ?_⟩
  · refine ⟨fun p hp => ?_, x2⟩
    simp at hp
    rcases hp with rfl | rfl | rfl | rfl | rfl | rfl <;> rfl
  clear hK K b2 o2 B1' x1
  clear o2'
  clear r1 n1
  refine wpAnyC_one (i := 10) (by kernel_rfl) rfl (fun K hK => ?_)
  go_simp
  refine (refadd_at c2 2 2 a2 L2 l _ 2 w2 rfl rfl N2.out (by omega) (by omega) (by omega) (by omega) r2 n2).mono ?_
  rintro r w3 ⟨v3, rfl, o3, b3⟩
  rw [← U3.out] at o3
  have B3' := B2'.trans (b3.mono B2'.size)
  have x3 := x2.below b3
  have o3' := owns_weaken o3 B2'.size
  obtain ⟨a3, c3, rfl, _, _, _, r3, n3, _⟩ := owns_parts o3
  refine hK _ _ ⟨?_, ?_⟩
  · refine ⟨fun p hp => ?_, x3⟩
    simp at hp
    rcases hp with rfl | rfl | rfl | rfl | rfl | rfl <;> rfl
  clear hK K b3 o3 B2' x2
  clear o3'
  clear r2 n2
  refine wpAnyC_one (i := 13) (by kernel_rfl) rfl (fun K hK => ?_)
  go_simp
  refine (refadd_at c3 4 4 a3 L3 s _ 4 w3 rfl rfl N3.out (by omega) (by omega) (by omega) (by omega) r3 n3).mono ?_
  rintro r w4 ⟨v4, rfl, o4, b4⟩
  rw [← U4.out] at o4
  have B4' := B3'.trans (b4.mono B3'.size)
  have x4 := x3.below b4
  have o4' := owns_weaken o4 B3'.size
  obtain ⟨a4, c4, rfl, _, _, _, r4, n4, _⟩ := owns_parts o4
  refine hK _ _ ⟨?_, ?_⟩
  · refine ⟨fun p hp => ?_, x4⟩
    simp at hp
    rcases hp with rfl | rfl | rfl | rfl | rfl | rfl <;> rfl
  clear hK K b4 o4 B3' x3
  clear r3 n3
  refine wpAnyC_one (i := 14) (by kernel_rfl) rfl (fun K hK => ?_)
  go_simp
  refine hK _ _ ⟨?_, ?_⟩
  · refine ⟨fun p hp => ?_, x4⟩
    simp at hp
    rcases hp with rfl | rfl | rfl | rfl | rfl | rfl <;> rfl
  clear hK K
  refine wpAnyC_done (by kernel_rfl) ?_ _
  have q3 := x4.cell 3
  simp only [List.getElem?_toArray, List.getElem?_cons_zero, List.getElem?_cons_succ] at q3
  have p4 : w4.ownsRow w.heap.size 5 1 (.slice a4 8 c4) 8 (bcs L4) := o4'
  clear r4 n4 o4'
  go_wp2_with fail
  refine (refextents_at w.heap.size cap n 8 a (.slice a4 8 c4) L4 es w4 Hl.out (by omega) (by omega) hnat (hr.below B4' (Nat.le_refl _)) B4'.size p4).mono ?_
  rintro r w5 ⟨v5, rfl, o5, b5⟩
  rw [← U5.out] at o5
  have B5 := B4'.trans (b5.mono B4'.size)
  have x5 := x4.below b5
  clear p4 q3 x4 B4' b5
  have p5 : w5.ownsRow w.heap.size 5 1 v5 (8 + n * 6 + 0) (bcs (L5 ++ noughts 0)) := by simpa [noughts] using o5
  clear o5
  go_wp2_with fail
  go_loopw [4] (fun v wr => ∃ j : Nat, j ≤ 26 - (8 + n * 6) ∧ wr.ownsRow w.heap.size 5 1 v (8 + n * 6 + j) (bcs (L5 ++ noughts j)) ∧ Box wr w.heap.size #[.int .u8 (k : Int), .int .i64 (l : Int), .int .i64 (s : Int), .slice a n cap, .int .i64 (d : Int)] 32 ∧ Below w.heap.size w wr) (fun v _ => match v with | .slice _ n _ => 100 - n | _ => 0)
  case atStart => exact ⟨0, Nat.zero_le _, p5, x5, B5⟩
  case round =>
   obtain ⟨i, hi', hown, hx, hbel⟩ := hrel
   clear p5 x5 B5
   obtain ⟨ak, ck, rfl, hlk, _, _, rk, nk, _⟩ := owns_parts hown
   have Hlk : Hid _ := hlk
   clear hlk
   by_cases hlt : i < 26 - (8 + n * 6)
   · have z3 := hbel.size
     have hlt2 : ((8 + n * 6 + i : Nat) : Int) < 26 := by omega
     clear rk nk
     go_wp2_with (at_builtin; refine wpList_append_own _ rfl _ _ 22 rfl w.heap.size 5 i0 (.int .u8 0) 1 1 Try.underlying22 hi hz0 hz1 hz2 rfl (by decide) _ (8 + n * 6 + i) (bcs (L5 ++ noughts i)) rfl (hown.alloc _) ⟨wr.heap.size, 0, none⟩ 1 1 [.int .u8 0] rfl rfl ?c1 ?c2 ?c3 ?c4 ?c5 ?_)
     case c1 =>
       intro i u hi'
       match i, hi' with
       | 0, hi' => simp at hi'; subst hi'; simp [Addr.add]
     case c2 => intro u hu; simp at hu; subst hu; rfl
     case c3 => unfold maxLen; omega
     case c4 => omega
     case c5 => simp; omega
     · intro v' w7 hown7 hgrow _
       have B7 : Below w.heap.size w w7 := (hbel.alloc z3 _).grown hgrow (by simp; omega) (fun k hk => (hown.lt k hk).1)
       have y7 := (hx.alloc _).grown32 (hown.alloc _) hgrow
       have p7 : w7.ownsRow w.heap.size 5 1 v' (8 + n * 6 + (i + 1)) (bcs (L5 ++ noughts (i + 1))) := by
         have h : L5 ++ noughts (i + 1) = (L5 ++ noughts i) ++ [0] := by simp [noughts, List.replicate_succ']
         rw [h, bcs_append]
         exact hown7
       obtain ⟨a7, c7, rfl, _, _, _, _, _, _⟩ := owns_parts p7
       clear hown hbel hgrow hown7 hx
       go_wp2
       go_roundw
       case rel => exact ⟨i + 1, by omega, p7, y7, B7⟩
       case measure => simp; omega
   · obtain rfl : i = 26 - (8 + n * 6) := by omega
     rw [← U6.out] at rk Hlk
     have e4 : 8 + n * 6 + (26 - (8 + n * 6)) = 26 := by omega
     rw [e4] at Hlk ⊢
     clear hown hi' hlt e4
     have q4 := hx.cell 4
     simp only [List.getElem?_toArray, List.getElem?_cons_zero, List.getElem?_cons_succ] at q4
     go_wp2_with fail
     refine (refadd_at ck 26 2 ak L6 d _ 2 wr rfl rfl N6.out (by omega) (by omega) (by omega) (by omega) rk nk).mono ?_
     rintro r w7 ⟨v7, rfl, o7, b7⟩
     rw [← U7.out] at o7
     have B7 := hbel.trans (b7.mono hbel.size)
     have x7 := hx.below b7
     have o7' := owns_weaken o7 hbel.size
     have p7 : w7.ownsRow w.heap.size 5 1 v7 (28 + 0) (bcs (L7 ++ noughts 0)) := by simpa [noughts] using o7'
     clear b7 o7 o7' q4 rk nk hx hbel Hlk
     go_wp2_with fail
     go_loopw [4] (fun v wr => ∃ j : Nat, j ≤ 32 ∧ wr.ownsRow w.heap.size 5 1 v (28 + j) (bcs (L7 ++ noughts j)) ∧ Box wr w.heap.size #[.int .u8 (k : Int), .int .i64 (l : Int), .int .i64 (s : Int), .slice a n cap, .int .i64 (d : Int)] 32 ∧ Below w.heap.size w wr) (fun v _ => match v with | .slice _ n _ => 100 - n | _ => 0)
     case atStart => exact ⟨0, Nat.zero_le _, p7, x7, B7⟩
     case round =>
      obtain ⟨i, hi', hown, hx, hbel⟩ := hrel
      clear p7 x7 B7
      obtain ⟨ak, ck, rfl, hlk, _, _, rk, nk, _⟩ := owns_parts hown
      have Hlk : Hid _ := hlk
      clear hlk
      by_cases hlt : i < 32
      · have z3 := hbel.size
        have hlt2 : ((28 + i : Nat) : Int) < 60 := by omega
        clear rk nk
        go_wp2_with (at_builtin; refine wpList_append_own _ rfl _ _ 22 rfl w.heap.size 5 i0 (.int .u8 0) 1 1 Try.underlying22 hi hz0 hz1 hz2 rfl (by decide) _ (28 + i) (bcs (L7 ++ noughts i)) rfl (hown.alloc _) ⟨wr.heap.size, 0, none⟩ 1 1 [.int .u8 0] rfl rfl ?c1 ?c2 ?c3 ?c4 ?c5 ?_)
        case c1 =>
          intro i u hi'
          match i, hi' with
          | 0, hi' => simp at hi'; subst hi'; simp [Addr.add]
        case c2 => intro u hu; simp at hu; subst hu; rfl
        case c3 => unfold maxLen; omega
        case c4 => omega
        case c5 => simp; omega
        · intro v' w7 hown7 hgrow _
          have B7 : Below w.heap.size w w7 := (hbel.alloc z3 _).grown hgrow (by simp; omega) (fun k hk => (hown.lt k hk).1)
          have y7 := (hx.alloc _).grown32 (hown.alloc _) hgrow
          have p7 : w7.ownsRow w.heap.size 5 1 v' (28 + (i + 1)) (bcs (L7 ++ noughts (i + 1))) := by
            have h : L7 ++ noughts (i + 1) = (L7 ++ noughts i) ++ [0] := by simp [noughts, List.replicate_succ']
            rw [h, bcs_append]
            exact hown7
          obtain ⟨a7, c7, rfl, _, _, _, _, _, _⟩ := owns_parts p7
          clear hown hbel hgrow hown7 hx
          go_wp2
          go_roundw
          case rel => exact ⟨i + 1, by omega, p7, y7, B7⟩
          case measure => simp; omega
      · obtain rfl : i = 32 := by omega
        rw [← U8.out] at rk Hlk
        have e4 : 28 + (32) = 60 := by omega
        rw [e4] at Hlk ⊢
        clear hown hi' hlt e4
        have hcl := crc_lt 0 L8
        have k5 := ref_at ck 60 ak L8 0 0 wr rfl N8.out (by omega) (by omega) rk
        obtain ⟨X, hX⟩ : ∃ X, X = crc 0 L8 := ⟨_, rfl⟩
        rw [← hX] at hcl k5
        have HX : Hid _ := hX
        clear hX hx
        go_wp2_with fail
        refine k5.mono ?_
        rintro r w8 ⟨rfl, rfl⟩
        clear k5
        go_wp2_with fail
        refine (refadd_at ck 60 4 ak L8 X _ 4 wr rfl rfl N8.out (by omega) (by omega) (by omega) (by omega) rk nk).mono ?_
        rintro r w9 ⟨v9, rfl, o9, b9⟩
        have B9 := hbel.trans (b9.mono hbel.size)
        have o9' := owns_weaken o9 hbel.size
        clear b9 o9 rk nk hbel
        go_wp2
        go_ret2
        refine ⟨_, rfl, ?_, B9⟩
        show World.ownsRow _ _ _ _ _ (inodeB k l s es d).length (bcs (inodeB k l s es d))
        rw [Hi.out, E8.out, ← HX.out]
        exact o9'

/-- the document's PutInode is super's -/
theorem refPutInode_at (k n cap : Nat) (l s d : Int) (a : Option Addr) (es : List Ext) (w : World) (hl : es.length = n) (hn : n ≤ 9223372036854775807) (hw : ∀ e ∈ es, wfE e) (hr : RdE w a es) :
    Calls Try.prog 23 #[.agg #[.int .u8 (k : Int), .int .i64 l, .int .i64 s, .slice a n cap, .int .i64 d]] w fun r w' => Puts w w' (putInode k l s es d) r := by
  by_cases hk : k = 0
  · subst hk
    by_cases h : l = 0 ∧ s = 0 ∧ n = 0 ∧ d = 0
    · obtain ⟨rfl, rfl, rfl, rfl⟩ := h
      obtain rfl : es = [] := List.eq_nil_of_length_eq_zero hl
      exact refPutInode_unused cap a w
    · rw [putInode_zero l s d es (by rw [hl]; exact h)]
      exact refPutInode_zero n cap l s d a w h
  · by_cases h : (k = 1 ∨ k = 2) ∧ (0 ≤ l ∧ l ≤ 100) ∧ (0 ≤ s ∧ s ≤ 131072) ∧ n ≤ 3 ∧ (0 ≤ d ∧ d ≤ 511)
    · obtain ⟨h0, h1, h2, h3, h5⟩ := h
      obtain ⟨l, rfl⟩ := Int.eq_ofNat_of_zero_le h1.1
      obtain ⟨s, rfl⟩ := Int.eq_ofNat_of_zero_le h2.1
      obtain ⟨d, rfl⟩ := Int.eq_ofNat_of_zero_le h5.1
      cases hq : rightFrom 0 es
      · rw [putInode_not k l s d es hk (usedI_right k l s d es hq)]
        exact refPutInode_wrong k n cap l s d a es w h0 (by omega) (by omega) h3 (by omega) hl hw hr hq
      · rw [putInode_yes k l s d es hk (usedI_true k l s d es ⟨h0, h1, h2, by omega, h5⟩ hq)]
        exact refPutInode_ok k n cap l s d a es w h0 (by omega) (by omega) h3 (by omega) hl hw hr hq
    · rw [putInode_not k l s d es hk (usedI_false k l s d es (by rw [hl]; exact h))]
      exact refPutInode_bad k n cap l s d a w hk hn h
end Go.Proofs.Ytmhplpiglbamcaa
