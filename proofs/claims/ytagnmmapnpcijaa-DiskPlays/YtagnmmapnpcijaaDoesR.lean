/-
  The law's own 'does': what is no call; Read.
-/
import Derived.Test.YtagnmmapnpcijaaDoesW
namespace Go.Proofs.Ytagnmmapnpcijaa
open Go.RowKit

variable {K : List (Nat × Obj)}

section
variable {P : Program} {ops : Array Oper} {Q : Exit → Act → World → Prop} {md : Region.Mode} {C : Act → World → Prop} {late : List Nat}
/-- Two operations may come up. -/
theorem wpAnyD_two {i j : Nat} {o p : Oper} {fuel : Nat} {listed : Array Bool} {a : Act} {w : World} (hr : Region.ready md ops listed = [i, j]) (ho : ops[i]? = some o) (hp : ops[j]? = some p)
    (h : ∀ K' : Act → World → Prop, (∀ a w, ((late.contains i = true ∨ C a w) ∧ wpAnyD P md ops Q C late fuel (listed.setIfInBounds i true) a w) → K' a w) → if Region.wanted o (yielded ops a.tmps) = true then Oper.wp P o a w K' Q else K' (a.put o.dst undef) w)
    (h' : ∀ K' : Act → World → Prop, (∀ a w, ((late.contains j = true ∨ C a w) ∧ wpAnyD P md ops Q C late fuel (listed.setIfInBounds j true) a w) → K' a w) → if Region.wanted p (yielded ops a.tmps) = true then Oper.wp P p a w K' Q else K' (a.put p.dst undef) w) :
    wpAnyD P md ops Q C late (fuel + 1) listed a w := by
  refine ⟨fun h0 => (by rw [hr] at h0; cases h0), fun k hk => ?_⟩
  rw [hr] at hk
  have : k = i ∨ k = j := by simpa using hk
  rcases this with rfl | rfl
  · exact wpOp_step ho h
  · exact wpOp_step hp h'
end

set_option maxRecDepth 100000 in
set_option maxHeartbeats 4000000 in
theorem does_read {w0 w : World} {g : Nat} {D : DS} {v : Value} (h : Both K w0 w g D v) (n sz b : Int) (ak : Option Addr) (nk ck : Nat) (m : Int) (hlim : D.uf.length ≤ 1000000) :
    Calls Try.prog 28 #[.pointer (some ⟨g, 0, none⟩), v, .agg #[.int .i64 3, .int .i64 n, .int .i64 sz, .int .i64 b, .slice ak nk ck, .int .u8 m]] w fun r w' => ∃ v', r = .returned (.tuple #[v', .bool true]) ∧ Both K w0 w' g D v' := by
  obtain ⟨F, a1, a2, n1, c1, n2, c2, rfl, hd, f0, B, R, kk⟩ := h
  obtain ⟨s0, B0⟩ := sit_start hd f0 B kk #[.int .i64 3, .int .i64 n, .int .i64 sz, .int .i64 b, .slice ak nk ck, .int .u8 m] (refA a1 a2 n1 c1 n2 c2 D) zero49
  have R0 := R.below B0
  have cd : Calls Try.prog 19 #[.pointer (some ⟨g, 0, none⟩), .int .i64 n] ((((w.alloc (.cells (refA a1 a2 n1 c1 n2 c2 D) 49)).alloc (.cells #[.int .i64 3, .int .i64 n, .int .i64 sz, .int .i64 b, .slice ak nk ck, .int .u8 m] 53)).alloc (.cells zero49 49)).alloc (.cells (refA a1 a2 n1 c1 n2 c2 D) 49)) fun e w' => ∃ a l c xs, e = .returned (.tuple #[.slice a l c, .int .i64 (D.readE n : Int)]) ∧ xs.length = l ∧ Rd w' a xs ∧ (D.readE n ≠ 0 → xs = []) ∧ (D.readE n = 0 → xs = D.stand n.toNat) ∧ Below ((((w.alloc (.cells (refA a1 a2 n1 c1 n2 c2 D) 49)).alloc (.cells #[.int .i64 3, .int .i64 n, .int .i64 sz, .int .i64 b, .slice ak nk ck, .int .u8 m] 53)).alloc (.cells zero49 49)).alloc (.cells (refA a1 a2 n1 c1 n2 c2 D) 49)).heap.size ((((w.alloc (.cells (refA a1 a2 n1 c1 n2 c2 D) 49)).alloc (.cells #[.int .i64 3, .int .i64 n, .int .i64 sz, .int .i64 b, .slice ak nk ck, .int .u8 m] 53)).alloc (.cells zero49 49)).alloc (.cells (refA a1 a2 n1 c1 n2 c2 D) 49)) w' := by
    by_cases hE : D.readE n = 0
    · obtain ⟨j, rfl, hj, hg⟩ : ∃ j : Nat, n = j ∧ j < D.nb ∧ D.gone = false := by
        unfold DS.readE DS.has at hE
        by_cases q : 0 ≤ n ∧ n < D.nb
        · refine ⟨n.toNat, by omega, by omega, ?_⟩
          cases hg : D.gone with
          | false => rfl
          | true => simp [q.1, q.2, hg] at hE
        · by_cases q1 : 0 ≤ n
          · have q2 : ¬ n < D.nb := fun h => q ⟨q1, h⟩
            simp [q2] at hE
          · simp [q1] at hE
      refine (read_at s0.d j hj hg hlim).mono ?_
      rintro e w' ⟨gr, cr, rfl, _, hrow, b⟩
      exact ⟨_, 4096, cr, _, by rw [hE]; rfl, stand_length s0.d.ok _ hj, hrow.rd, fun h => absurd hE h, fun _ => rfl, b⟩
    · refine (read_bad s0.d n hE).mono ?_
      rintro e w' ⟨rfl, rfl⟩
      exact ⟨none, 0, 0, [], rfl, rfl, Rd.nil _ _, fun _ => rfl, fun h => absurd h hE, Below.refl _ _⟩
  unfold refA zero49 at s0 R0 cd
  clear kk hd f0 B R B0
  unfold refA
  go_enter Try.func28, Try.ntmps28
  go_wp2_with fail
  refine cd.mono ?_
  rintro r w1 ⟨a, l, c, xs, rfl, hl, hx, hx1, hx2, b1⟩
  have s1 := s0.below b1
  have R1 := R0.below b1
  clear cd s0 R0 b1
  have cr := rreadD R1 n
  unfold refA at cr
  obtain ⟨bx, hbx⟩ : ∃ bx, bx = w.heap.size := ⟨_, rfl⟩
  rw [← hbx] at s1
  rw [← hbx]
  clear hbx
  obtain ⟨p0, p1, p2, p3, p4, p5⟩ := s1.b4.all6
  obtain ⟨q0, q1, q2, q3, q4, q5⟩ := s1.b5.all6
  have S1 : Hid _ := s1
  have HR1 : Hid _ := R1
  clear s1 R1
  go_wp2_with fail
  refine cr.mono ?_
  rintro r w2 ⟨a', l', c', ys, rfl, hl', hy, hy1, hy2, b2⟩
  have exy : ys = xs := by
    by_cases hE : D.readE n = 0
    · rw [hx2 hE, hy2 hE]
    · rw [hx1 hE, hy1 hE]
  subst exy
  have hx' := hx.below b2 (Nat.le_refl _)
  have s2 := S1.out.below b2
  have R2 := HR1.out.below b2
  clear cr S1 HR1 b2 p0 p1 p2 p3 p4 p5 q0 q1 q2 q3 q4 q5 hx hx1 hx2 hy1 hy2
  have HS2 : Hid _ := s2
  have HR2 : Hid _ := R2
  have HX : Hid _ := hx'
  have HY : Hid _ := hy
  clear s2 R2 hx' hy
  rw [show bx + 1 + 1 + 1 = bx + 3 from rfl, show bx + 1 + 1 = bx + 2 from rfl]
  go_upto_region 19 with fail
  refine wp_region_any (by kernel_rfl) ?_
  change wpAny _ _ _ _ _ _ _ (World.drew _)
  refine wpAny_take (i := 1) (v := ?_) rfl (by kernel_rfl) (by kernel_rfl) (by kernel_rfl) (fun _ _ _ h => h) (Or.inl ⟨by rfl, ?_⟩) ?_
  rotate_left
  · intro w
    go_simp
    with_reducible rfl
  simp only [Act.put, List.setIfInBounds_toArray, List.set_cons_zero, List.set_cons_succ, List.getElem_toArray, List.getElem_cons_zero, List.getElem_cons_succ]
  refine wpAny_take (i := 2) (v := ?_) rfl (by kernel_rfl) (by kernel_rfl) (by kernel_rfl) (fun _ _ _ h => h) (Or.inl ⟨by rfl, ?_⟩) ?_
  rotate_left
  · intro w
    go_simp
    with_reducible rfl
  simp only [Act.put, List.setIfInBounds_toArray, List.set_cons_zero, List.set_cons_succ, List.getElem_toArray, List.getElem_cons_zero, List.getElem_cons_succ]
  refine wpAny_take (i := 3) (v := ?_) rfl (by kernel_rfl) (by kernel_rfl) (by kernel_rfl) (fun _ _ _ h => h) (Or.inl ⟨by rfl, ?_⟩) ?_
  rotate_left
  · intro w
    go_simp
    with_reducible rfl
  simp only [Act.put, List.setIfInBounds_toArray, List.set_cons_zero, List.set_cons_succ, List.getElem_toArray, List.getElem_cons_zero, List.getElem_cons_succ]
  refine wpAny_take (i := 4) (v := ?_) rfl (by kernel_rfl) (by kernel_rfl) (by kernel_rfl) (fun _ _ _ h => h) (Or.inl ⟨by rfl, ?_⟩) ?_
  rotate_left
  · intro w
    go_simp
    with_reducible rfl
  simp only [Act.put, List.setIfInBounds_toArray, List.set_cons_zero, List.set_cons_succ, List.getElem_toArray, List.getElem_cons_zero, List.getElem_cons_succ]
  refine wpAny_take (i := 5) (v := ?_) rfl (by kernel_rfl) (by kernel_rfl) (by kernel_rfl) (fun _ _ _ h => h) (Or.inl ⟨by rfl, ?_⟩) ?_
  rotate_left
  · intro w
    go_simp
    with_reducible rfl
  simp only [Act.put, List.setIfInBounds_toArray, List.set_cons_zero, List.set_cons_succ, List.getElem_toArray, List.getElem_cons_zero, List.getElem_cons_succ]
  refine wpAny_take (i := 6) (v := ?_) rfl (by kernel_rfl) (by kernel_rfl) (by kernel_rfl) (fun _ _ _ h => h) (Or.inl ⟨by rfl, ?_⟩) ?_
  rotate_left
  · intro w
    go_simp
    with_reducible rfl
  simp only [Act.put, List.setIfInBounds_toArray, List.set_cons_zero, List.set_cons_succ, List.getElem_toArray, List.getElem_cons_zero, List.getElem_cons_succ]
  have bd : Below w2.heap.size w2 w2.drew := (Below.refl _ _).drew
  have s2 := HS2.out.below bd
  have R2 := HR2.out.below bd
  have hx' := Rd.below HX.out bd (Nat.le_refl _)
  have hy := Rd.below HY.out bd (Nat.le_refl _)
  clear HS2 HR2 HX HY bd
  obtain ⟨W, hW⟩ : ∃ W, W = w2.drew := ⟨_, rfl⟩
  rw [← hW] at s2 R2 hx' hy ⊢
  clear hW
  have cS := same_at c c' l l' a a' ys ys W hl hl' hx' hy
  rw [show (ys == ys) = true by simp] at cS
  have s4 := s2.set6 (.slice a1 n1 c1) (.slice a2 n2 c2) (.int .i64 (D.n : Int)) (.bool D.gone) (.int .i64 (fuseI D.arm)) (.int .i64 (fuseI D.fail))
  have R4 := R2.set6 s2.b6 (.slice a1 n1 c1) (.slice a2 n2 c2) (.int .i64 (D.n : Int)) (.bool D.gone) (.int .i64 (fuseI D.arm)) (.int .i64 (fuseI D.fail))
  obtain ⟨p0, p1, p2, p3, p4, p5⟩ := s2.b6.all6
  obtain ⟨q0, q1, q2, q3, q4, q5⟩ := s2.b4.all6
  have f0 := s2.b6.frozen 0
  have f1 := s2.b6.frozen 1
  have f2 := s2.b6.frozen 2
  have f3 := s2.b6.frozen 3
  have f4 := s2.b6.frozen 4
  have f5 := s2.b6.frozen 5
  have S4 : Hid _ := s4
  have HR4 : Hid _ := R4
  clear s2 s4 R2 R4 hx' hy
  refine wpAny_of_late (C := SlotsCells [(4, .pointer (some ⟨bx, 0, none⟩))] [(⟨bx, 0, none⟩, .slice a1 n1 c1), (⟨bx, 1, none⟩, .slice a2 n2 c2), (⟨bx, 2, none⟩, .int .i64 (D.n : Int)), (⟨bx, 3, none⟩, .bool D.gone), (⟨bx, 4, none⟩, .int .i64 (fuseI D.arm)), (⟨bx, 5, none⟩, .int .i64 (fuseI D.fail))]) (late := [9, 10]) _ _ _ _ ?_
  refine wpAnyD_take (i := 0) (v := .agg #[.slice a1 n1 c1, .slice a2 n2 c2, .int .i64 (D.n : Int), .bool D.gone, .int .i64 (fuseI D.arm), .int .i64 (fuseI D.fail)]) rfl (by kernel_rfl) (by kernel_rfl) (by kernel_rfl) (by kernel_rfl) (fun _ _ _ h => h) ?_ (fun fr u h => (SlotsCells.put 79 _ (by rfl)).1 h) (fun fr u h => (SlotsCells.put 79 _ (by rfl)).2 h) ?_ ?_
  · intro fr u hh
    have e1 := hh.val (s := 4) (v := .pointer (some ⟨bx, 0, none⟩)) (by simp)
    obtain ⟨_, hc⟩ := hh
    have y0 := hc (⟨bx, 0, none⟩, .slice a1 n1 c1) (by simp)
    have y1 := hc (⟨bx, 1, none⟩, .slice a2 n2 c2) (by simp)
    have y2 := hc (⟨bx, 2, none⟩, .int .i64 (D.n : Int)) (by simp)
    have y3 := hc (⟨bx, 3, none⟩, .bool D.gone) (by simp)
    have y4 := hc (⟨bx, 4, none⟩, .int .i64 (fuseI D.arm)) (by simp)
    have y5 := hc (⟨bx, 5, none⟩, .int .i64 (fuseI D.fail)) (by simp)
    simp only at y0 y1 y2 y3 y4 y5
    exact ⟨rfl, by simp [execOp, e1, go_sem, y0, y1, y2, y3, y4, y5]⟩
  · refine ⟨fun p hp => ?_, fun q hq => ?_⟩
    · simp at hp
      subst hp
      rfl
    · simp at hq
      rcases hq with rfl | rfl | rfl | rfl | rfl | rfl
      · exact q0
      · exact q1
      · exact q2
      · exact q3
      · exact q4
      · exact q5
  simp only [Act.put, List.setIfInBounds_toArray, List.set_cons_zero, List.set_cons_succ, List.getElem_toArray, List.getElem_cons_zero]
  refine wpAnyD_one (i := 7) (by kernel_rfl) rfl (fun K hK => ?_)
  go_simp
  refine cS.mono ?_
  rintro e w3 ⟨rfl, rfl⟩
  refine hK _ _ ⟨?_, ?_⟩
  · refine .inr ⟨fun p hp => ?_, fun q hq => ?_⟩
    · simp at hp
      subst hp
      rfl
    · simp at hq
      rcases hq with rfl | rfl | rfl | rfl | rfl | rfl
      · exact q0
      · exact q1
      · exact q2
      · exact q3
      · exact q4
      · exact q5
  clear hK K
  refine wpAnyD_two (i := 8) (j := 9) (by kernel_rfl) rfl rfl (fun K hK => ?_) (fun K hK => ?_)
  · go_simp
    refine hK _ _ ⟨?_, ?_⟩
    · refine .inr ⟨fun p hp => ?_, fun q hq => ?_⟩
      · simp at hp
        subst hp
        rfl
      · simp at hq
        rcases hq with rfl | rfl | rfl | rfl | rfl | rfl
        · exact q0
        · exact q1
        · exact q2
        · exact q3
        · exact q4
        · exact q5
    clear hK K
    refine wpAnyD_one (i := 9) (by kernel_rfl) rfl (fun K hK => ?_)
    go_simp
    refine hK _ _ ⟨.inl rfl, ?_⟩
    clear hK K
    refine wpAnyD_one (i := 10) (by kernel_rfl) rfl (fun K hK => ?_)
    go_simp
    refine hK _ _ ⟨.inl rfl, ?_⟩
    clear hK K
    refine wpAnyD_done (by kernel_rfl) ?_ _
    go_wp2
    refine bodyPost_ret (v := .tuple #[.agg (refA a1 a2 n1 c1 n2 c2 D), .bool true]) (hd := rfl) (hR := ⟨_, rfl, F, a1, a2, n1, c1, n2, c2, rfl, S4.out.d, S4.out.f0, S4.out.bel, HR4.out, S4.out.kk⟩) (hr := ?_)
    simp [results, Try.results28, go_sem, refA, p0, p1, p2, p3, p4, p5]
  · go_simp
    refine hK _ _ ⟨.inl rfl, ?_⟩
    clear hK K
    refine wpAnyD_one (i := 8) (by kernel_rfl) rfl (fun K hK => ?_)
    go_simp
    refine hK _ _ ⟨?_, ?_⟩
    · refine .inr ⟨fun p hp => ?_, fun q hq => ?_⟩
      · simp at hp
        subst hp
        rfl
      · simp at hq
        rcases hq with rfl | rfl | rfl | rfl | rfl | rfl
        · exact S4.out.b4.all6.1
        · exact S4.out.b4.all6.2.1
        · exact S4.out.b4.all6.2.2.1
        · exact S4.out.b4.all6.2.2.2.1
        · exact S4.out.b4.all6.2.2.2.2.1
        · exact S4.out.b4.all6.2.2.2.2.2
    clear hK K
    refine wpAnyD_one (i := 10) (by kernel_rfl) rfl (fun K hK => ?_)
    go_simp
    refine hK _ _ ⟨.inl rfl, ?_⟩
    clear hK K
    refine wpAnyD_done (by kernel_rfl) ?_ _
    go_wp2
    refine bodyPost_ret (v := .tuple #[.agg (refA a1 a2 n1 c1 n2 c2 D), .bool true]) (hd := rfl) (hR := ⟨_, rfl, F, a1, a2, n1, c1, n2, c2, rfl, S4.out.d, S4.out.f0, S4.out.bel, HR4.out, S4.out.kk⟩) (hr := ?_)
    simp [results, Try.results28, go_sem, refA, p0, p1, p2, p3, p4, p5]
end Go.Proofs.Ytagnmmapnpcijaa
