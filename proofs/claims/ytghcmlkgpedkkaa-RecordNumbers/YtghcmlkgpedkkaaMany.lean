/-
  many: a group of so many images; sum: whether the sum stands where it is said to.
-/
import Derived.Test.YtghcmlkgpedkkaaMade
import Derived.Test.YtghcmlkgpedkkaaRMore
import Derived.Test.YtghcmlkgpedkkaaAny
import Derived.Test.YtghcmlkgpedkkaaOne
import Derived.Test.YtghcmlkgpedkkaaLate
import Derived.Test.YtghcmlkgpedkkaaLoads
import Derived.Deep.RegionHeld3
import Derived.Deep.AppendLies
namespace Go.Proofs.Ytghcmlkgpedkkaa
open Go.RowKit

theorem madeL_length (s : Int) (n : Nat) : (madeL s n).length = n := madeK_length s n n
def manyL (n : Nat) : List (Int × List UInt8) := (List.range n).map fun (i : Nat) => (511 - (i : Int), madeL (i : Int) 4096)
theorem manyL_length (n : Nat) : (manyL n).length = n := by simp [manyL]
theorem manyL_succ (n : Nat) : manyL (n + 1) = manyL n ++ [(511 - (n : Int), madeL (n : Int) 4096)] := by simp [manyL, List.range_succ]

set_option maxRecDepth 100000 in
set_option maxHeartbeats 4000000 in
theorem many_at (n : Nat) (N : Int) (w : World) (hN : N = (n : Int)) (hn : n ≤ 40) :
    Calls Try.prog 12 #[.int .i64 N] w fun r w' => ∃ a c, r = .returned (.agg #[.int .i64 8388608, .int .i64 549755813888, .slice a n c]) ∧ Imgs w' a (manyL n) ∧ Below w.heap.size w w' := by
  subst hN
  obtain ⟨i0, hi, hz0, hz1, hz2⟩ := info_parts info38
  have x2 := (Box.new w #[.int .i64 0, .int .i64 0, .slice none 0 0] 28).alloc (.cells #[.int .i64 8388608, .int .i64 549755813888, .slice none 0 0] 28)
  have x3 := Box.new (w.alloc (.cells #[.int .i64 0, .int .i64 0, .slice none 0 0] 28)) #[.int .i64 8388608, .int .i64 549755813888, .slice none 0 0] 28
  have B1 := (Below.refl w.heap.size w).alloc (Nat.le_refl _) (.cells #[.int .i64 0, .int .i64 0, .slice none 0 0] 28)
  have B2 := B1.alloc B1.size (.cells #[.int .i64 8388608, .int .i64 549755813888, .slice none 0 0] 28)
  have hs1 : (w.alloc (.cells #[.int .i64 0, .int .i64 0, .slice none 0 0] 28)).heap.size = w.heap.size + 1 := by simp
  rw [hs1] at x3
  clear B1 hs1
  go_enter Try.func12, Try.ntmps12
  go_wp2_with fail
  go_loopw [4] (fun v u => ∃ (k : Nat) (sv : Value) (qs : List GG), k ≤ n ∧ v = .int .i64 (k : Int) ∧ Box u w.heap.size #[.int .i64 0, .int .i64 0, .slice none 0 0] 28 ∧ Box u (w.heap.size + 1) #[.int .i64 8388608, .int .i64 549755813888, sv] 28 ∧ u.ownsRow w.heap.size 38 2 sv k (imgC qs) ∧ GetJ w.heap.size u qs ∧ qs.map (fun p => (p.b, p.xs)) = manyL k ∧ Below w.heap.size w u) (fun i _ => n - (intOf i).toNat)
  case atStart => exact ⟨0, _, [], Nat.zero_le _, rfl, x2, x3, World.ownsRow_nil _ _ _ _, ⟨fun p hp => (by cases hp), List.nodup_nil⟩, rfl, B2⟩
  case round =>
    clear x2 x3 B2
    obtain ⟨k, sv, qs, hk, rfl, x2, x3, own, hJ, hq, B⟩ := hrel
    have HQ : Hid (qs.map (fun p => (p.b, p.xs)) = manyL k) := hq
    have HJ : Hid (GetJ w.heap.size wr qs) := hJ
    have HX2 : Hid (Box wr w.heap.size #[.int .i64 0, .int .i64 0, .slice none 0 0] 28) := x2
    have HO : Hid (wr.ownsRow w.heap.size 38 2 sv k (imgC qs)) := own
    obtain ⟨av, cv, rfl⟩ := owns_shape own
    clear hq hJ own x2
    have c2 := x3.cell 2
    have HX3 : Hid (Box wr (w.heap.size + 1) #[.int .i64 8388608, .int .i64 549755813888, .slice av k cv] 28) := x3
    by_cases hlt : k < n
    · have cM := made_at (k : Int) 4096 wr.drew (by omega)
      have f2 := x3.frozen 2
      have lt3 := x3.lt
      have ht : Hid (manyL (k + 1) = manyL k ++ [(511 - (k : Int), madeL (k : Int) 4096)]) := manyL_succ k
      have hml : Hid ((madeL (k : Int) 4096).length = 4096) := madeL_length _ _
      obtain ⟨ml, hmd⟩ : ∃ l, l = madeL (k : Int) 4096 := ⟨_, rfl⟩
      rw [← hmd] at cM ht hml
      clear hmd x3
      have hw5 : IntKind.i64.wrap (511 - (k : Int)) = 511 - (k : Int) := by rw [IntKind.wrap_i64]; omega
      go_wp2_with fail
      refine wp_region_any (by kernel_rfl) ?_
      refine wpAny_take (i := 0) (v := ?_) rfl (by kernel_rfl) (by kernel_rfl) (by kernel_rfl) (fun _ _ _ h => h) (Or.inl ⟨by rfl, ?_⟩) ?_
      rotate_left
      · intro w
        go_simp
        with_reducible rfl
      simp only [Act.put, List.setIfInBounds_toArray, List.set_cons_zero, List.set_cons_succ, List.getElem_toArray, List.getElem_cons_zero]
      refine wpAny_take (i := 2) (v := ?_) rfl (by kernel_rfl) (by kernel_rfl) (by kernel_rfl) (fun _ _ _ h => h) (Or.inl ⟨by rfl, ?_⟩) ?_
      rotate_left
      · intro w
        go_simp
        with_reducible rfl
      simp only [Act.put, List.setIfInBounds_toArray, List.set_cons_zero, List.set_cons_succ, List.getElem_toArray, List.getElem_cons_zero, List.getElem_cons_succ]
      refine wpAny_take (i := 3) (v := ?_) rfl (by kernel_rfl) (by kernel_rfl) (by kernel_rfl) (fun _ _ _ h => h) (Or.inl ⟨by rfl, ?_⟩) ?_
      rotate_left
      · intro w
        go_simp
        with_reducible rfl
      simp only [Act.put, List.setIfInBounds_toArray, List.set_cons_zero, List.set_cons_succ, List.getElem_toArray, List.getElem_cons_zero, List.getElem_cons_succ]
      refine wpAny_take (i := 4) (v := ?_) rfl (by kernel_rfl) (by kernel_rfl) (by kernel_rfl) (fun _ _ _ h => h) (Or.inl ⟨by rfl, ?_⟩) ?_
      rotate_left
      · intro w
        go_simp
        with_reducible rfl
      simp only [Act.put, List.setIfInBounds_toArray, List.set_cons_zero, List.set_cons_succ, List.getElem_toArray, List.getElem_cons_zero, List.getElem_cons_succ]
      refine wpAny_of_late (C := SlotsCells [(11, .pointer (some ⟨w.heap.size + 1, 2, none⟩))] [(⟨w.heap.size + 1, 2, none⟩, .slice av k cv)]) (late := [10]) _ _ _ _ ?_
      refine wpAnyD_take (i := 1) (v := .slice av k cv) rfl (by kernel_rfl) (by kernel_rfl) (by kernel_rfl) (by kernel_rfl) (fun _ _ _ h => h) ?_ (fun fr u h => (SlotsCells.put 12 _ (by rfl)).1 h) (fun fr u h => (SlotsCells.put 12 _ (by rfl)).2 h) ?_ ?_
      · intro fr u hh
        obtain ⟨e1, e2⟩ := hh.load (s := 11) (p := ⟨w.heap.size + 1, 2, none⟩) (v := .slice av k cv) (by simp) (by simp)
        exact ⟨rfl, by simp [execOp, e1, go_sem, e2]⟩
      · refine ⟨fun p hp => by simp at hp; subst hp; rfl, fun q hq => by simp at hq; subst hq; exact c2⟩
      simp only [Act.put, List.setIfInBounds_toArray, List.set_cons_zero, List.set_cons_succ, List.getElem_toArray, List.getElem_cons_zero, List.getElem_cons_succ]
      refine wpAnyD_one (i := 5) (by kernel_rfl) rfl (fun K hK => ?_)
      go_simp
      refine Calls.mono cM ?_
      rintro r W ⟨rfl, om, bW⟩
      have rowM : Hid (RowB W wr.heap.size 4096 ml) := by
        have := RowB.own om (by rw [hml.out]; decide)
        rwa [hml.out] at this
      have J2 : Hid (GetJ w.heap.size W (qs ++ [⟨511 - (k : Int), ml, wr.heap.size, 4096⟩])) := (HJ.out.below ((Below.refl wr.heap.size wr).drew)).snoc bW ⟨511 - (k : Int), ml, wr.heap.size, 4096⟩ rowM.out (Nat.le_refl _) hml.out B.size
      have O2 : Hid (W.ownsRow w.heap.size 38 2 (.slice av k cv) k (imgC qs)) := owns_below (owns_below HO.out ((Below.refl wr.heap.size wr).drew)) bW
      have X3 : Hid (Box W (w.heap.size + 1) #[.int .i64 8388608, .int .i64 549755813888, .slice av k cv] 28) := (HX3.out.below ((Below.refl wr.heap.size wr).drew)).below bW
      have X2 : Hid (Box W w.heap.size #[.int .i64 0, .int .i64 0, .slice none 0 0] 28) := (HX2.out.below ((Below.refl wr.heap.size wr).drew)).below bW
      have c2W : W.cell? ⟨w.heap.size + 1, 2, none⟩ = some (.slice av k cv) := X3.out.cell 2
      have c2A : ∀ o : Obj, (W.alloc o).cell? ⟨w.heap.size + 1, 2, none⟩ = some (.slice av k cv) := fun o => (X3.out.alloc o).cell 2
      have BW := B.drew.trans (bW.mono B.size)
      refine hK _ _ ⟨.inr ⟨fun p hp => by simp at hp; subst hp; rfl, fun q hq => by simp at hq; subst hq; exact c2W⟩, ?_⟩
      clear hK K om bW rowM
      refine wpAnyD_one (i := 6) (by kernel_rfl) rfl (fun K hK => ?_)
      go_simp
      refine hK _ _ ⟨.inr ⟨fun p hp => by simp at hp; subst hp; rfl, fun q hq => by simp at hq; subst hq; exact c2W⟩, ?_⟩
      clear hK K
      refine wpAnyD_one (i := 7) (by kernel_rfl) rfl (fun K hK => ?_)
      go_simp
      refine hK _ _ ⟨.inr ⟨fun p hp => by simp at hp; subst hp; rfl, fun q hq => by simp at hq; subst hq; exact c2A _⟩, ?_⟩
      clear hK K
      refine wpAnyD_one (i := 8) (by kernel_rfl) rfl (fun K hK => ?_)
      refine step_append_lies _ (by rfl) _ _ _ (by rfl) w.heap.size 38 i0 _ 2 32 Try.underlying26 hi hz0 hz1 hz2 rfl (by omega) (.slice av k cv) k (imgC qs) (by rfl) (owns_below O2.out ((Below.refl _ W).alloc (Nat.le_refl _) _))
                ⟨W.heap.size, 0, none⟩ 1 1 [.int .i64 (511 - (k : Int)), .slice (some ⟨wr.heap.size, 0, none⟩) 4096 4096] (by rfl) (by rfl) (World.news_of_block (cs := #[.int .i64 (511 - (k : Int)), .slice (some ⟨wr.heap.size, 0, none⟩) 4096 4096]) (t := 38) (fr := (0, 0)) (heap_alloc_new W _)) (by intro u hu; simp at hu; rcases hu with rfl | rfl <;> rfl)
                (by omega) (by unfold maxLen; omega) (by omega) (by simp; exact Nat.le_succ_of_le BW.size) (W.heap.size + 1) (by simp) ?_
      intro gg gc w1 hown1 hgrow hat hlt1
      have B2 := (BW.alloc BW.size (.cells #[.int .i64 (511 - (k : Int)), .slice (some ⟨wr.heap.size, 0, none⟩) 4096 4096] 38)).grown hgrow (by simp; exact Nat.le_succ_of_le BW.size) (fun j e => (owns_block O2.out j e).1)
      have al := (Below.refl _ W).alloc (Nat.le_refl _) (.cells #[.int .i64 (511 - (k : Int)), .slice (some ⟨wr.heap.size, 0, none⟩) 4096 4096] 38)
      have J3 : Hid (GetJ w.heap.size w1 (qs ++ [⟨511 - (k : Int), ml, wr.heap.size, 4096⟩])) := (J2.out.below al).grown (owns_below O2.out al) (by decide) hgrow
      have X3' : Hid (Box w1 (w.heap.size + 1) #[.int .i64 8388608, .int .i64 549755813888, .slice av k cv] 28) := (hgrow.block _ (X3.out.below al).lt (fun e => by
          obtain ⟨_, cur, hb⟩ := owns_block (owns_below O2.out al) _ e.symm
          exact Box.ne hb (X3.out.below al) (by decide) rfl)).trans (X3.out.below al)
      have X2' : Hid (Box w1 w.heap.size #[.int .i64 0, .int .i64 0, .slice none 0 0] 28) := (hgrow.block _ (X2.out.below al).lt (fun e => by
          obtain ⟨_, cur, hb⟩ := owns_block (owns_below O2.out al) _ e.symm
          exact Box.ne hb (X2.out.below al) (by decide) rfl)).trans (X2.out.below al)
      have c2' : w1.cell? ⟨w.heap.size + 1, 2, none⟩ = some (.slice av k cv) := X3'.out.cell 2
      have f2' : w1.frozen? ⟨w.heap.size + 1, 2, none⟩ = false := X3'.out.frozen 2
      
      refine hK _ _ ⟨.inr ⟨fun p hp => by simp at hp; subst hp; rfl, fun q hq => by simp at hq; subst hq; exact c2'⟩, ?_⟩
      clear hK K hgrow hat hlt1 al
      refine wpAnyD_one (i := 9) (by kernel_rfl) rfl (fun K hK => ?_)
      go_simp
      refine hK _ _ ⟨.inr ⟨fun p hp => by simp at hp; subst hp; rfl, fun q hq => by simp at hq; subst hq; exact c2'⟩, ?_⟩
      clear hK K
      refine wpAnyD_one (i := 10) (by kernel_rfl) rfl (fun K hK => ?_)
      go_simp
      refine hK _ _ ⟨.inl rfl, ?_⟩
      clear hK K
      refine wpAnyD_done (by kernel_rfl) ?_ _
      all_goals
        have O5 : Hid ((w1.setCell ⟨w.heap.size + 1, 2, none⟩ (.slice (some ⟨gg, 0, none⟩) (k + 1) gc)).ownsRow w.heap.size 38 2 (.slice (some ⟨gg, 0, none⟩) (k + 1) gc) (k + 1) (imgC (qs ++ [⟨511 - (k : Int), ml, wr.heap.size, 4096⟩]))) := by
          have e : imgC (qs ++ [⟨511 - (k : Int), ml, wr.heap.size, 4096⟩]) = imgC qs ++ [.int .i64 (511 - (k : Int)), .slice (some ⟨wr.heap.size, 0, none⟩) 4096 4096] := by simp [imgC]
          rw [e]
          refine owns_grown hown1 (grown_store _ _ _ _) (fun g h1 h2 => ?_)
          injection h2 with h2
          subst h2
          obtain ⟨_, cur, hb⟩ := owns_block hown1 _ h1
          exact Box.ne hb X3'.out (by decide) rfl
        have X5 : Box (w1.setCell ⟨w.heap.size + 1, 2, none⟩ (.slice (some ⟨gg, 0, none⟩) (k + 1) gc)) (w.heap.size + 1) #[.int .i64 8388608, .int .i64 549755813888, .slice (some ⟨gg, 0, none⟩) (k + 1) gc] 28 := by simpa using X3'.out.store 2 (.slice (some ⟨gg, 0, none⟩) (k + 1) gc)
        have X6 : Box (w1.setCell ⟨w.heap.size + 1, 2, none⟩ (.slice (some ⟨gg, 0, none⟩) (k + 1) gc)) w.heap.size #[.int .i64 0, .int .i64 0, .slice none 0 0] 28 := (heap_setCell_other w1 ⟨w.heap.size + 1, 2, none⟩ w.heap.size _ (by simp)).trans X2'.out
        have J5 : Hid (GetJ w.heap.size (w1.setCell ⟨w.heap.size + 1, 2, none⟩ (.slice (some ⟨gg, 0, none⟩) (k + 1) gc)) (qs ++ [⟨511 - (k : Int), ml, wr.heap.size, 4096⟩])) := J3.out.store X3'.out (by decide) _
        have B5 := B2.setCell (p := ⟨w.heap.size + 1, 2, none⟩) (Nat.le_succ _) (.slice (some ⟨gg, 0, none⟩) (k + 1) gc)
        clear hown1 J2 O2 BW B2 c2 f2 c2W c2A c2' f2'
        go_wp2_with fail
        go_roundw
        case rel => exact ⟨k + 1, _, _, by omega, by push_cast; rfl, X6, X5, O5.out, J5.out, by rw [List.map_append, HQ.out, ht.out]; rfl, B5⟩
        case measure => simp [intOf]; omega
    · have hke : k = n := by omega
      rw [hke] at HO HQ x3 HX3 ⊢
      clear hke hlt hk
      have y0 := x3.cell 0
      have y1 := x3.cell 1
      have y2 := x3.cell 2
      have x2 := HX2.out
      have v0 := x2.cell 0
      have v1 := x2.cell 1
      have v2 := x2.cell 2
      have f0 := x2.frozen 0
      have f1 := x2.frozen 1
      have f2 := x2.frozen 2
      clear c2
      go_wp2_with fail
      have x5 := ((x2.store 0 (.int .i64 8388608)).store 1 (.int .i64 549755813888)).store 2 (.slice av n cv)
      replace x5 : Box (((wr.setCell ⟨w.heap.size, 0, none⟩ (.int .i64 8388608)).setCell ⟨w.heap.size, 1, none⟩ (.int .i64 549755813888)).setCell ⟨w.heap.size, 2, none⟩ (.slice av n cv)) w.heap.size #[.int .i64 8388608, .int .i64 549755813888, .slice av n cv] 28 := by simpa using x5
      have d0 := x5.cell 0
      have d1 := x5.cell 1
      have d2 := x5.cell 2
      simp at d0 d1 d2
      have J0 := HJ.out.store (j := 0) x2 (by decide) (.int .i64 8388608)
      have q1 := x2.store 0 (.int .i64 8388608)
      have J1 := J0.store (j := 1) q1 (by decide) (.int .i64 549755813888)
      have q2 := q1.store 1 (.int .i64 549755813888)
      have J2 := J1.store (j := 2) q2 (by decide) (.slice av n cv)
      have O3 := owns_grown (owns_grown (owns_grown HO.out (grown_store wr w.heap.size 0 (.int .i64 8388608)) (fun g h1 h2 => by
          injection h2 with h2
          obtain ⟨_, cur, hb⟩ := owns_block HO.out g h1
          exact Box.ne x2 (h2 ▸ hb) (by decide) rfl)) (grown_store _ w.heap.size 1 (.int .i64 549755813888)) (fun g h1 h2 => by
          injection h2 with h2
          obtain ⟨_, cur, hb⟩ := owns_block HO.out g h1
          exact Box.ne x2 (h2 ▸ hb) (by decide) rfl)) (grown_store _ w.heap.size 2 (.slice av n cv)) (fun g h1 h2 => by
          injection h2 with h2
          obtain ⟨_, cur, hb⟩ := owns_block HO.out g h1
          exact Box.ne x2 (h2 ▸ hb) (by decide) rfl)
      have hI := imgs_of O3 J2 (by rw [← manyL_length n, ← HQ.out]; simp)
      rw [HQ.out] at hI
      have B5 := ((B.setCell (p := ⟨w.heap.size, 0, none⟩) (Nat.le_refl _) (.int .i64 8388608)).setCell (p := ⟨w.heap.size, 1, none⟩) (Nat.le_refl _) (.int .i64 549755813888)).setCell (p := ⟨w.heap.size, 2, none⟩) (Nat.le_refl _) (.slice av n cv)
      exact bodyPost_ret (v := .agg #[.int .i64 8388608, .int .i64 549755813888, .slice av n cv]) (by simp [results, Try.results12, go_sem, d0, d1, d2]) rfl ⟨av, cv, rfl, hI, B5⟩
/-- what the sum is asked of: the bytes behind the stamps -/
theorem sum_plain (es : List (Nat × List UInt8)) (e s : Nat) (hb : (bodyB es).length = 4032) : ((bodyX (headB e s es)).drop 2).take 4 = toBE 4 (crc 0 ((bodyX (headB e s es)).drop 6)) := by
  rw [body_head hb]
  have e1 : bodyB es = toBE 2 es.length ++ (toBE 4 (crc 0 (restB es)) ++ restB es) := by
    unfold bodyB
    rw [List.append_assoc]
  have e2 : (bodyB es).drop 6 = restB es := by
    unfold bodyB
    rw [List.drop_left' (by rw [List.length_append, toBE_length, toBE_length])]
  rw [e2]
  rw [e1, List.drop_left' (toBE_length 2 _), List.take_left' (toBE_length 4 _)]
end Go.Proofs.Ytghcmlkgpedkkaa
