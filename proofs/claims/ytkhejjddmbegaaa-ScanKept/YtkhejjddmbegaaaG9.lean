/-
  RcMade, SImg, SAhead, DkLists, JStand, JAppOk, SWr, SPlain, SCrash: put together.
-/
import Derived.Test.YtkhejjddmbegaaaG8
import Derived.Deep.AppendLies
import Derived.Deep.Cut
/-
  Made: so many bytes, out of a number.
-/
namespace Go.Proofs.Ytkhejjddmbegaaa.Rc
open Go.RowKit

def nx (x : Int) : Int := IntKind.u64.wrap (IntKind.u64.wrap (x * 2862933555777941757) + 3037000493)
/-- the number behind k bytes -/
def seedAt (s : Int) : Nat → Int
  | 0 => nx (IntKind.u64.wrap s)
  | k + 1 => if k % 8 = 0 then nx (seedAt s k) else seedAt s k
def byteAt (s : Int) (k : Nat) : UInt8 := UInt8.ofNat (seedAt s (k + 1) / 1099511627776 % 256).toNat
def madeK (s : Int) (n : Nat) : Nat → List UInt8
  | 0 => nought n
  | k + 1 => (madeK s n k).set k (byteAt s k)
def madeL (s : Int) (n : Nat) : List UInt8 := madeK s n n
theorem madeK_length (s : Int) (n : Nat) : ∀ k, (madeK s n k).length = n
  | 0 => nought_length n
  | k + 1 => by rw [madeK, List.length_set, madeK_length s n k]
theorem byteAt_eq (s : Int) (k : Nat) : ((byteAt s k).toNat : Int) = seedAt s (k + 1) / 1099511627776 % 256 := by
  unfold byteAt
  have h1 : 0 ≤ seedAt s (k + 1) / 1099511627776 % 256 := Int.emod_nonneg _ (by decide)
  have h2 : seedAt s (k + 1) / 1099511627776 % 256 < 256 := Int.emod_lt_of_pos _ (by decide)
  rw [UInt8.toNat_ofNat']
  omega
theorem seedAt_step (s : Int) (k : Nat) (h : k % 8 = 0) : seedAt s (k + 1) = nx (seedAt s k) := by rw [seedAt, if_pos h]
theorem seedAt_same (s : Int) (k : Nat) (h : ¬ k % 8 = 0) : seedAt s (k + 1) = seedAt s k := by rw [seedAt, if_neg h]
theorem nx_range (x : Int) : 0 ≤ nx x ∧ nx x ≤ 18446744073709551615 := by unfold nx; rw [IntKind.wrap_u64]; omega
theorem seedAt_range (s : Int) : ∀ k, 0 ≤ seedAt s k ∧ seedAt s k ≤ 18446744073709551615
  | 0 => nx_range _
  | k + 1 => by rw [seedAt]; split; exact nx_range _; exact seedAt_range s k

set_option maxRecDepth 100000 in
set_option maxHeartbeats 2000000 in
theorem made_at (s : Int) (n : Nat) (w : World) (hn : n ≤ 1000000) :
    Calls Try.prog 39 #[.int .i64 s, .int .i64 (n : Int)] w fun e w' => e = .returned (.slice (some ⟨w.heap.size, 0, none⟩) n n) ∧ Own w' w.heap.size (madeL s n) ∧ Below w.heap.size w w' := by
  have hm : ∀ u : World, (Instr.makeSlice 32 (.int .i64 (n : Int)) (.int .i64 (n : Int))).run Try.prog u = .ok (.slice (some ⟨u.heap.size, 0, none⟩) n n) (u.alloc (.cells (bcs (madeK s n 0)).toArray 5)) := make_run n (by omega)
  have o0 := own_lit w (madeK s n 0)
  have B0 := (Below.refl w.heap.size w).alloc (Nat.le_refl _) (.cells (bcs (madeK s n 0)).toArray 5)
  obtain ⟨U, hU⟩ : ∃ U, U = w.alloc (.cells (bcs (madeK s n 0)).toArray 5) := ⟨_, rfl⟩
  rw [← hU] at o0 B0
  have HU : Hid _ := hU
  clear hU
  go_enter Try.func39, Try.ntmps39
  go_wp2_with fail
  rw [← HU.out]
  go_loopw [6, 7] (fun x i wr => ∃ k : Nat, k ≤ n ∧ x = .int .u64 (seedAt s k) ∧ i = .int .i64 k ∧ Own wr w.heap.size (madeK s n k) ∧ Below w.heap.size w wr) (fun _ i _ => n - (intOf i).toNat)
  case atStart => exact ⟨0, Nat.zero_le _, rfl, rfl, o0, B0⟩
  case round =>
    obtain ⟨k, hk, rfl, rfl, o, B⟩ := hrel
    clear o0 B0 hm HU
    by_cases hlt : k < n
    · have hlt2 : (k : Int) < (n : Int) := by omega
      have c0 := o.cell k (by rw [madeK_length]; exact hlt)
      have f0 := o.frozen k
      have o1 := o.store k (byteAt s k)
      have B1 := B.setCell (p := ⟨w.heap.size, k, none⟩) (Nat.le_refl _) (.int .u8 ((byteAt s k).toNat : Int))
      generalize ((madeK s n k)[k]'(by rw [madeK_length]; exact hlt)) = q at c0
      have o1' : Own _ w.heap.size (madeK s n (k + 1)) := o1
      clear o1
      rw [byteAt_eq] at o1' B1
      have r0 := seedAt_range s k
      by_cases h8 : k % 8 = 0
      · have e8 : ((k : Int) % 8 == 0) = true := by simp; omega
        rw [seedAt_step s k h8] at o1' B1
        unfold nx at o1' B1
        have Hs : Hid _ := seedAt_step s k h8
        clear h8
        go_wp2
        go_roundw
        case rel => exact ⟨k + 1, by omega, by rw [Hs.out]; rfl, by go_num, o1', B1⟩
        case measure => simp [intOf]; omega
      · have e8 : ((k : Int) % 8 == 0) = false := by simp; omega
        rw [seedAt_same s k h8] at o1' B1
        have Hs : Hid _ := seedAt_same s k h8
        clear h8
        go_wp2
        go_roundw
        case rel => exact ⟨k + 1, by omega, by rw [Hs.out], by go_num, o1', B1⟩
        case measure => simp [intOf]; omega
    · have hkn : k = n := by omega
      subst k
      go_wp2
      go_ret
      exact ⟨rfl, o, B⟩
end Go.Proofs.Ytkhejjddmbegaaa.Rc

/-
  The law's images, made of a number; the layout of its disk.
-/
namespace Go.Proofs.Ytkhejjddmbegaaa.S
open Go.RowKit
open Go.Proofs.Ytkhejjddmbegaaa.Rc (GG GetJ imgC madeL RowB owns_below owns_shape owns_block)

/-- k images, made of z -/
def im9 (z : Int) (k : Nat) : List (Int × List UInt8) := (List.range k).map fun (i : Nat) => (30 + (i : Int), madeL (IntKind.i64.wrap (z + (i : Int))) 4096)
theorem im9_succ (z : Int) (k : Nat) : im9 z (k + 1) = im9 z k ++ [(30 + (k : Int), madeL (IntKind.i64.wrap (z + (k : Int))) 4096)] := by simp [im9, List.range_succ]
theorem im9_length (z : Int) (k : Nat) : (im9 z k).length = k := by simp [im9]

set_option maxRecDepth 100000 in
set_option maxHeartbeats 4000000 in
theorem images9_at (w : World) (n : Nat) (z : Int) (hn : n ≤ 40) :
    Calls Try.prog 20 #[.int .i64 (n : Int), .int .i64 z] w fun r w' => ∃ a' c' qs, r = .returned (.slice a' n c') ∧ w'.ownsRow w.heap.size 94 2 (.slice a' n c') n (imgC qs) ∧ GetJ w.heap.size w' qs ∧ qs.map (fun p => (p.b, p.xs)) = im9 z n ∧ Below w.heap.size w w' := by
  obtain ⟨i0, hi, hz0, hz1, hz2⟩ := info_parts Rc.info38
  go_enter Try.func20, Try.ntmps20
  go_wp2_with fail
  go_loopw [5, 6] (fun v i u => ∃ (k : Nat) (qs : List GG), k ≤ n ∧ i = .int .i64 (k : Int) ∧ u.ownsRow w.heap.size 94 2 v k (imgC qs) ∧ GetJ w.heap.size u qs ∧ qs.map (fun p => (p.b, p.xs)) = im9 z k ∧ Below w.heap.size w u) (fun _ i _ => n - (intOf i).toNat)
  case atStart => exact ⟨0, [], Nat.zero_le _, rfl, World.ownsRow_nil _ _ _ _, ⟨fun p hp => (by cases hp), List.nodup_nil⟩, rfl, Below.refl _ _⟩
  case round =>
    obtain ⟨k, qs, hk, rfl, hown, hJ, hps, B⟩ := hrel
    have HPS : Hid (qs.map (fun p => (p.b, p.xs)) = im9 z k) := hps
    have HJ : Hid (GetJ w.heap.size wr qs) := hJ
    have HOWN : Hid (wr.ownsRow w.heap.size 94 2 u5 k (imgC qs)) := hown
    clear hps hJ
    obtain ⟨av, cv, rfl⟩ := owns_shape hown
    by_cases hlt : k < n
    · have hki : (k : Int) < (n : Int) := by omega
      have hstep : Hid (im9 z (k + 1) = im9 z k ++ [(30 + (k : Int), madeL (IntKind.i64.wrap (z + (k : Int))) 4096)]) := im9_succ z k
      have hml : Hid ((madeL (IntKind.i64.wrap (z + (k : Int))) 4096).length = 4096) := Rc.madeK_length _ _ _
      have cM := Rc.made_at (IntKind.i64.wrap (z + (k : Int))) 4096 wr (by omega)
      obtain ⟨zz, hzz⟩ : ∃ zz, IntKind.i64.wrap (z + (k : Int)) = zz := ⟨_, rfl⟩
      rw [hzz] at cM hstep hml
      obtain ⟨ml, hmd⟩ : ∃ l, l = madeL zz 4096 := ⟨_, rfl⟩
      rw [← hmd] at cM hstep hml
      clear hmd hown
      go_wp2_with fail
      refine Calls.mono cM ?_
      rintro r W ⟨rfl, om, bW⟩
      have rowM : Hid (RowB W wr.heap.size 4096 ml) := by
        have := Rc.RowB.own om (by rw [hml.out]; decide)
        rwa [hml.out] at this
      have J2 : Hid (GetJ w.heap.size W (qs ++ [⟨30 + (k : Int), ml, wr.heap.size, 4096⟩])) := HJ.out.snoc bW ⟨30 + (k : Int), ml, wr.heap.size, 4096⟩ rowM.out (Nat.le_refl _) hml.out B.size
      have O2 : Hid (W.ownsRow w.heap.size 94 2 (.slice av k cv) k (imgC qs)) := owns_below HOWN.out bW
      have B1 := B.trans (bW.mono B.size)
      have own1 := (O2.out).alloc (.cells #[.int .i64 (30 + (k : Int)), .slice (some ⟨wr.heap.size, 0, none⟩) 4096 4096] 94)
      have z1 := B1.size
      clear om bW cM B
      go_wp2_with (at_builtin; refine wpList_append_own _ rfl _ _ 50 rfl w.heap.size 94 i0 _ 2 32 Try.underlying50 hi hz0 hz1 hz2 rfl (by decide) _ k _ rfl own1 ⟨W.heap.size, 0, none⟩ 1 1 [.int .i64 (30 + (k : Int)), .slice (some ⟨wr.heap.size, 0, none⟩) 4096 4096] rfl rfl ?c1 ?c2 ?c3 ?c4 ?c5 ?_)
      case c1 => exact World.news_of_block (cs := #[.int .i64 (30 + (k : Int)), .slice (some ⟨wr.heap.size, 0, none⟩) 4096 4096]) (t := 94) (fr := (0, 0)) (heap_alloc_new W _)
      case c2 => intro u hu; simp at hu; rcases hu with rfl | rfl <;> rfl
      case c3 => unfold maxLen; omega
      case c4 => omega
      case c5 => simp; omega
      · intro v' w1 hown1 hgrow _
        have al := (Below.refl _ W).alloc (Nat.le_refl _) (.cells #[.int .i64 (30 + (k : Int)), .slice (some ⟨wr.heap.size, 0, none⟩) 4096 4096] 94)
        have B2 : Below w.heap.size w w1 := (B1.alloc z1 _).grown hgrow (by simp; omega) (fun j e => (owns_block O2.out j e).1)
        have J3 : GetJ w.heap.size w1 (qs ++ [⟨30 + (k : Int), ml, wr.heap.size, 4096⟩]) := (J2.out.below al).grown own1 (by decide) hgrow
        clear hgrow own1 al
        go_wp2_with fail
        go_roundw
        case rel => exact ⟨k + 1, _, by omega, by push_cast; rfl, by simpa [imgC] using hown1, J3, by rw [List.map_append, HPS.out, hstep.out]; rfl, B2⟩
        case measure => simp [intOf]; omega
    · have hke : k = n := by omega
      rw [hke] at HOWN HPS ⊢
      clear hke hlt hk hown
      go_wp2_with fail
      go_ret
      exact ⟨_, _, qs, rfl, HOWN.out, HJ.out, HPS.out, B⟩

def lay : Array Value := #[.int .i64 64, .int .i64 2, .int .i64 16, .int .i64 18, .int .i64 19, .int .i64 4, .int .i64 23]
theorem lay64 : La.layA 64 = lay := by
  have hL : La.lgs 64 = 16 := by decide
  simp [La.layA, hL, lay]
theorem ref64 (w : World) : Calls Try.prog 18 #[.int .i64 64] w fun r w' => r = .returned (.tuple #[.agg lay, .int .i64 0]) ∧ Below w.heap.size w w' := by
  have c := La.ref_good 64 w (by decide) (by decide)
  rw [lay64] at c
  exact c
theorem layout64_at (w : World) : Calls Try.prog 13 #[] w fun r w' => r = .returned (.agg lay) ∧ Below w.heap.size w w' := by
  have al := (Below.refl w.heap.size w).alloc (Nat.le_refl _) (.cells #[.int .i64 0, .int .i64 0, .int .i64 0, .int .i64 0, .int .i64 0, .int .i64 0, .int .i64 0] 41)
  have x0 := Dk.Box.new w #[.int .i64 0, .int .i64 0, .int .i64 0, .int .i64 0, .int .i64 0, .int .i64 0, .int .i64 0] 41
  have cO := ref64 (w.alloc (.cells #[.int .i64 0, .int .i64 0, .int .i64 0, .int .i64 0, .int .i64 0, .int .i64 0, .int .i64 0] 41))
  unfold lay at cO ⊢
  go_enter Try.func13, Try.ntmps13
  go_wp2_with fail
  refine Calls.mono cO ?_
  rintro r u1 ⟨rfl, b1⟩
  have B1 := al.trans (b1.mono al.size)
  have x1 := (x0.below b1).alloc (.cells #[.int .i64 64, .int .i64 2, .int .i64 16, .int .i64 18, .int .i64 19, .int .i64 4, .int .i64 23] 41)
  have B2 := B1.alloc B1.size (.cells #[.int .i64 64, .int .i64 2, .int .i64 16, .int .i64 18, .int .i64 19, .int .i64 4, .int .i64 23] 41)
  clear b1 cO al x0
  have f0 := x1.frozen 0
  have f1 := x1.frozen 1
  have f2 := x1.frozen 2
  have f3 := x1.frozen 3
  have f4 := x1.frozen 4
  have f5 := x1.frozen 5
  have f6 := x1.frozen 6
  have c0 := x1.cell 0
  have c1 := x1.cell 1
  have c2 := x1.cell 2
  have c3 := x1.cell 3
  have c4 := x1.cell 4
  have c5 := x1.cell 5
  have c6 := x1.cell 6
  simp at c0 c1 c2 c3 c4 c5 c6
  have x2 := ((((((x1.store 0 (.int .i64 64)).store 1 (.int .i64 2)).store 2 (.int .i64 16)).store 3 (.int .i64 18)).store 4 (.int .i64 19)).store 5 (.int .i64 4)).store 6 (.int .i64 23)
  have B3 := ((((((B2.setCell (p := ⟨w.heap.size, 0, none⟩) (Nat.le_refl _) (.int .i64 64)).setCell (p := ⟨w.heap.size, 1, none⟩) (Nat.le_refl _) (.int .i64 2)).setCell (p := ⟨w.heap.size, 2, none⟩) (Nat.le_refl _) (.int .i64 16)).setCell (p := ⟨w.heap.size, 3, none⟩) (Nat.le_refl _) (.int .i64 18)).setCell (p := ⟨w.heap.size, 4, none⟩) (Nat.le_refl _) (.int .i64 19)).setCell (p := ⟨w.heap.size, 5, none⟩) (Nat.le_refl _) (.int .i64 4)).setCell (p := ⟨w.heap.size, 6, none⟩) (Nat.le_refl _) (.int .i64 23)
  go_wp2_with fail
  have d0 := x2.cell 0
  have d1 := x2.cell 1
  have d2 := x2.cell 2
  have d3 := x2.cell 3
  have d4 := x2.cell 4
  have d5 := x2.cell 5
  have d6 := x2.cell 6
  simp at d0 d1 d2 d3 d4 d5 d6
  exact bodyPost_ret (v := .agg #[.int .i64 64, .int .i64 2, .int .i64 16, .int .i64 18, .int .i64 19, .int .i64 4, .int .i64 23]) (by simp [results, Try.results13, go_sem, d0, d1, d2, d3, d4, d5, d6]) rfl ⟨rfl, B3⟩
end Go.Proofs.Ytkhejjddmbegaaa.S

/-
  What goes wrong ahead of all reading: nothing, of a right disk, layout and start.
-/
namespace Go.Proofs.Ytkhejjddmbegaaa.S
open Go.RowKit
open Go.Proofs.Ytkhejjddmbegaaa.Dk (Box)

theorem neq41 (u : World) : (binOp .neq 41 (.agg lay) (.agg lay)).run Try.prog u = .ok (.bool false) u := by
  have h := J.neq40 u 64
  rw [lay64] at h
  exact h
theorem right_at (B E S t : Int) (w : World) (ht : 0 ≤ t ∧ t ≤ 15) (hE : 1 ≤ E ∧ E ≤ 8388608) (hS : 1 ≤ S ∧ S ≤ 549755813888) :
    Calls Try.prog 49 #[.agg lay, .agg #[.int .i64 B, .int .i64 E, .int .i64 S, .int .i64 t]] w fun r w' => r = .returned (.bool true) ∧ Below w.heap.size w w' := by
  have B0 := ((Below.refl w.heap.size w).alloc (Nat.le_refl _) (.cells lay 41)).alloc (by simp) (.cells #[.int .i64 B, .int .i64 E, .int .i64 S, .int .i64 t] 44)
  unfold lay at B0 ⊢
  go_enter Try.func49, Try.ntmps49
  go_wp2_with fail
  refine (within_at _ _ _ _).mono ?_
  rintro r u1 ⟨rfl, rfl⟩
  rw [decide_eq_true (by omega)]
  go_wp2_with fail
  refine (within_at _ _ _ _).mono ?_
  rintro r u1 ⟨rfl, rfl⟩
  rw [decide_eq_true hE]
  go_wp2_with fail
  refine (within_at _ _ _ _).mono ?_
  rintro r u1 ⟨rfl, rfl⟩
  rw [decide_eq_true hS]
  go_wp2_with fail
  go_ret
  exact ⟨rfl, B0⟩
theorem ahead_ok {w : World} {dg : Nat} {D : Dk.DS} {F : Nat → Prop} (hd : Dk.IsDisk w dg D F) (hnb : D.nb = 64) (E S t : Int) (ht : 0 ≤ t ∧ t ≤ 15) (hE : 1 ≤ E ∧ E ≤ 8388608) (hS : 1 ≤ S ∧ S ≤ 549755813888) :
    Calls Try.prog 29 #[.pointer (some ⟨dg, 0, none⟩), .agg lay, .agg #[.int .i64 64, .int .i64 E, .int .i64 S, .int .i64 t]] w fun r w' => r = .returned (.int .i64 0) ∧ Below w.heap.size w w' := by
  have hq := neq41
  have B0 := ((Below.refl w.heap.size w).alloc (Nat.le_refl _) (.cells lay 41)).alloc (by simp) (.cells #[.int .i64 64, .int .i64 E, .int .i64 S, .int .i64 t] 44)
  have l0 := (Dk.Box.new w lay 41).alloc (.cells #[.int .i64 64, .int .i64 E, .int .i64 S, .int .i64 t] 44)
  have l1 : Box ((w.alloc (.cells lay 41)).alloc (.cells #[.int .i64 64, .int .i64 E, .int .i64 S, .int .i64 t] 44)) (w.heap.size + 1) #[.int .i64 64, .int .i64 E, .int .i64 S, .int .i64 t] 44 := Rg.Box.next w _ _ 44
  have c1 : Calls Try.prog 36 #[.pointer (some ⟨dg, 0, none⟩)] ((w.alloc (.cells lay 41)).alloc (.cells #[.int .i64 64, .int .i64 E, .int .i64 S, .int .i64 t] 44)) fun e w' => e = .returned (.int .i64 (D.nb : Int)) ∧ ((w.alloc (.cells lay 41)).alloc (.cells #[.int .i64 64, .int .i64 E, .int .i64 S, .int .i64 t] 44)) = w' := by
    obtain ⟨gd, cd, vu, ps, h⟩ := hd
    exact Dk.size_at (h.kept (fun i hi => B0.block i (h.flt i hi)) B0.size)
  rw [hnb] at c1
  have c2 := fun u => La.of_good 64 u (by decide) (by decide)
  rw [lay64] at c2
  have c3 := fun u => right_at 64 E S t u ht hE hS
  clear hd
  unfold lay at *
  go_enter Try.func29, Try.ntmps29
  go_wp2_with fail
  refine Calls.mono c1 ?_
  rintro r u1 ⟨rfl, rfl⟩
  go_wp2_with fail
  refine Calls.mono (c2 _) ?_
  rintro r u1 ⟨rfl, b1⟩
  have B1 := B0.trans (b1.mono B0.size)
  have l2 := (l0.below b1).alloc (.cells #[.int .i64 64, .int .i64 2, .int .i64 16, .int .i64 18, .int .i64 19, .int .i64 4, .int .i64 23] 41)
  have l3 := (l1.below b1).alloc (.cells #[.int .i64 64, .int .i64 2, .int .i64 16, .int .i64 18, .int .i64 19, .int .i64 4, .int .i64 23] 41)
  have B2 := B1.alloc B1.size (.cells #[.int .i64 64, .int .i64 2, .int .i64 16, .int .i64 18, .int .i64 19, .int .i64 4, .int .i64 23] 41)
  clear b1 c1 c2 l0 l1
  have y0 := l2.cell 0
  have y1 := l2.cell 1
  have y2 := l2.cell 2
  have y3 := l2.cell 3
  have y4 := l2.cell 4
  have y5 := l2.cell 5
  have y6 := l2.cell 6
  have x0 := l3.cell 0
  have x1 := l3.cell 1
  have x2 := l3.cell 2
  have x3 := l3.cell 3
  simp at y0 y1 y2 y3 y4 y5 y6 x0 x1 x2 x3
  go_wp2_with fail
  refine Calls.mono (c3 _) ?_
  rintro r u2 ⟨rfl, b2⟩
  have B3 := B2.trans (b2.mono B2.size)
  go_wp2_with fail
  go_ret
  exact ⟨rfl, B3⟩
end Go.Proofs.Ytkhejjddmbegaaa.S

/-
  Blocks of one byte, blocks of two; what a quiet disk does. No program is named here.
-/
namespace Go.Proofs.Ytkhejjddmbegaaa.Dk

/-- the first k bytes are c, the others noughts -/
def fillK (c : UInt8) (k : Nat) : List UInt8 := (List.range 4096).map fun i => if i < k then c else 0
def fill (c : UInt8) : List UInt8 := fillK c 4096
theorem fillK_length (c : UInt8) (k : Nat) : (fillK c k).length = 4096 := by simp [fillK]
theorem fill_length (c : UInt8) : (fill c).length = 4096 := fillK_length c 4096
theorem fillK_get (c : UInt8) (k i : Nat) : (fillK c k)[i]? = if i < 4096 then some (if i < k then c else 0) else none := by
  unfold fillK
  rw [List.getElem?_map]
  by_cases h : i < 4096
  · rw [List.getElem?_range h, if_pos h]; rfl
  · rw [List.getElem?_eq_none (by simp; omega), if_neg h]; rfl
theorem fillK_zero (c : UInt8) : fillK c 0 = List.replicate 4096 0 := by
  apply List.ext_getElem?
  intro i
  rw [fillK_get, List.getElem?_replicate]
  simp
theorem fillK_set (c : UInt8) (k : Nat) (h : k < 4096) : (fillK c k).set k c = fillK c (k + 1) := by
  apply List.ext_getElem?
  intro i
  rw [List.getElem?_set, fillK_get, fillK_get, fillK_length]
  by_cases e : k = i
  · subst e
    rw [if_pos rfl, if_pos h, if_pos h, if_pos (by omega)]
  · rw [if_neg e]
    by_cases h1 : i < k
    · rw [if_pos h1, if_pos (show i < k + 1 by omega)]
    · rw [if_neg h1, if_neg (show ¬ i < k + 1 by omega)]
theorem fill_get (c : UInt8) (i : Nat) (h : i < 4096) : (fill c)[i]? = some c := by
  unfold fill
  rw [fillK_get, if_pos h, if_pos h]

/-- .. of the first k bytes those of b's sectors are b -/
def mixK (a b : UInt8) (m k : Nat) : List UInt8 := (List.range 4096).map fun i => if i < k ∧ bit m (i / 512) = true then b else a
theorem mixK_length (a b : UInt8) (m k : Nat) : (mixK a b m k).length = 4096 := by simp [mixK]
theorem mixK_get (a b : UInt8) (m k i : Nat) : (mixK a b m k)[i]? = if i < 4096 then some (if i < k ∧ bit m (i / 512) = true then b else a) else none := by
  unfold mixK
  rw [List.getElem?_map]
  by_cases h : i < 4096
  · rw [List.getElem?_range h, if_pos h]; rfl
  · rw [List.getElem?_eq_none (by simp; omega), if_neg h]; rfl
theorem mixK_zero (a b : UInt8) (m : Nat) : mixK a b m 0 = fill a := by
  apply List.ext_getElem?
  intro i
  rw [mixK_get]
  by_cases h : i < 4096
  · rw [if_pos h, fill_get a i h, if_neg (by rintro ⟨h1, _⟩; omega)]
  · rw [if_neg h, List.getElem?_eq_none (by rw [fill_length]; omega)]
theorem mixK_set (a b : UInt8) (m k : Nat) (h : k < 4096) (hb : bit m (k / 512) = true) : (mixK a b m k).set k b = mixK a b m (k + 1) := by
  apply List.ext_getElem?
  intro i
  rw [List.getElem?_set, mixK_get, mixK_get, mixK_length]
  by_cases e : k = i
  · subst e
    rw [if_pos rfl, if_pos h, if_pos h, if_pos ⟨by omega, hb⟩]
  · rw [if_neg e]
    by_cases h1 : i < k ∧ bit m (i / 512) = true
    · have h2 : i < k + 1 ∧ bit m (i / 512) = true := ⟨by omega, h1.2⟩
      simp only [if_pos h1, if_pos h2]
    · have h2 : ¬ (i < k + 1 ∧ bit m (i / 512) = true) := fun h2 => h1 ⟨by have := h2.1; omega, h2.2⟩
      simp only [if_neg h1, if_neg h2]
theorem mixK_skip (a b : UInt8) (m k : Nat) (hb : bit m (k / 512) = false) : mixK a b m (k + 1) = mixK a b m k := by
  apply List.ext_getElem?
  intro i
  rw [mixK_get, mixK_get]
  by_cases h1 : i < k ∧ bit m (i / 512) = true
  · have h2 : i < k + 1 ∧ bit m (i / 512) = true := ⟨by omega, h1.2⟩
    simp only [if_pos h1, if_pos h2]
  · have h2 : ¬ (i < k + 1 ∧ bit m (i / 512) = true) := fun h2 => by
      by_cases e : i = k
      · subst e; rw [hb] at h2; exact absurd h2.2 (by simp)
      · exact h1 ⟨by have := h2.1; omega, h2.2⟩
    simp only [if_neg h1, if_neg h2]

theorem blk_carry_all (d : List UInt8) (b : Nat) (data : List UInt8) (hb : b * 4096 + 4096 ≤ d.length) (hd : data.length = 4096) : blk (carry d b data 255) b = data := by
  apply List.ext_getElem?
  intro i
  rw [blk_get]
  by_cases h : i < 4096
  · have e : b * 4096 + i - b * 4096 = i := by omega
    have hq : i / 512 < 8 := by clear hb hd e; omega
    rw [if_pos h, carry_get d b data 255 hb hd, e, if_pos ⟨Nat.le_add_right _ _, Nat.add_lt_add_left h _, bit_all _ hq⟩]
  · rw [if_neg h, List.getElem?_eq_none (by omega)]
theorem blk_carry_other (d : List UInt8) (b n : Nat) (data : List UInt8) (m : Nat) (hb : b * 4096 + 4096 ≤ d.length) (hd : data.length = 4096) (hn : n ≠ b) : blk (carry d b data m) n = blk d n := by
  apply List.ext_getElem?
  intro i
  rw [blk_get, blk_get]
  by_cases h : i < 4096
  · rw [if_pos h, if_pos h, carry_get d b data m hb hd, if_neg (fun h1 => by have h2 := h1.1; have h3 := h1.2.1; omega)]
  · rw [if_neg h, if_neg h]
theorem blk_carry_mix (d : List UInt8) (b : Nat) (x y : UInt8) (m : Nat) (hb : b * 4096 + 4096 ≤ d.length) (hd : blk d b = fill x) : blk (carry d b (fill y) m) b = mixK x y m 4096 := by
  apply List.ext_getElem?
  intro i
  rw [blk_get, mixK_get]
  by_cases h : i < 4096
  · have e : b * 4096 + i - b * 4096 = i := by omega
    have e2 : d[b * 4096 + i]? = some x := by
      have := blk_get d b i
      rw [hd, if_pos h, fill_get x i h] at this
      exact this.symm
    rw [if_pos h, if_pos h, carry_get d b (fill y) m hb (fill_length y), e]
    by_cases hbit : bit m (i / 512) = true
    · rw [if_pos ⟨Nat.le_add_right _ _, Nat.add_lt_add_left h _, hbit⟩, if_pos ⟨h, hbit⟩, fill_get y i h]
    · rw [if_neg (fun q => hbit q.2.2), if_neg (fun q => hbit q.2), e2]
  · rw [if_neg h, if_neg h]
theorem blk_nought (n b : Nat) (h : b * 4096 + 4096 ≤ n) : blk (List.replicate n 0) b = fill 0 := by
  apply List.ext_getElem?
  intro i
  rw [blk_get]
  by_cases hi : i < 4096
  · rw [if_pos hi, fill_get 0 i hi, List.getElem?_replicate, if_pos (by omega)]
  · rw [if_neg hi, List.getElem?_eq_none (by rw [fill_length]; omega)]

/-- a disk with its power on, and nothing armed -/
def DS.quiet (D : DS) : Prop := D.gone = false ∧ D.arm = ⟨false, 0⟩ ∧ D.fail = ⟨false, 0⟩
theorem DS.quiet.operE {D : DS} (h : D.quiet) : D.operE = 0 := by
  obtain ⟨h1, h2, h3⟩ := h
  simp [DS.operE, h1, h2, h3, Fuse.stops]
theorem DS.quiet.oper {D : DS} (h : D.quiet) : D.oper = D := by
  obtain ⟨nb, dur, uf, n, gone, arm, fail⟩ := D
  obtain ⟨h1, h2, h3⟩ := h
  dsimp only at h1 h2 h3
  subst h1 h2 h3
  rfl
theorem DS.quiet.write {D : DS} (h : D.quiet) (n : Nat) (b : List UInt8) (hn : n < D.nb) (hb : b.length = 4096) : D.write (n : Int) b = { D with uf := D.uf ++ [(n, b)], n := D.n + 1 } := by
  have hh : D.has (n : Int) = true := by simp [DS.has]; omega
  unfold DS.write
  rw [hh, h.operE, h.oper, hb]
  simp
theorem DS.quiet.writeE {D : DS} (h : D.quiet) (n : Nat) (b : List UInt8) (hn : n < D.nb) (hb : b.length = 4096) : D.writeE (n : Int) b = 0 := by
  have hh : D.has (n : Int) = true := by simp [DS.has]; omega
  unfold DS.writeE
  rw [hh, h.operE, hb]
  simp
theorem DS.quiet.flush {D : DS} (h : D.quiet) : D.flush = { D with dur := D.image, uf := [] } := by
  unfold DS.flush
  rw [if_pos h.operE, h.oper]
theorem DS.new_quiet (nb : Nat) (d : List UInt8) : (DS.new nb d).quiet := ⟨rfl, rfl, rfl⟩
theorem DS.crash_quiet (D : DS) (ks : List Bool) (t : Int) (m : Nat) : (D.crash ks t m).quiet := ⟨rfl, rfl, rfl⟩
end Go.Proofs.Ytkhejjddmbegaaa.Dk

/-
  What a disk's blocks are behind a group's writes.
-/
namespace Go.Proofs.Ytkhejjddmbegaaa.J
open Go.RowKit

theorem lastOf_front (uf ws : List (Nat × List UInt8)) (n : Nat) : ∀ k, k ≤ uf.length → Dk.lastOf (uf ++ ws) n k = Dk.lastOf uf n k
  | 0, _ => rfl
  | k + 1, h => by
    rw [Dk.lastOf, Dk.lastOf, List.getElem?_append_left (by omega), lastOf_front uf ws n k (by omega)]
theorem lastOf_snoc (uf : List (Nat × List UInt8)) (x : Nat × List UInt8) (n : Nat) : Dk.lastOf (uf ++ [x]) n (uf ++ [x]).length = if x.1 = n then some x.2 else Dk.lastOf uf n uf.length := by
  rw [List.length_append, List.length_singleton, Dk.lastOf, List.getElem?_concat_length, lastOf_front uf [x] n _ (Nat.le_refl _)]
/-- one write more -/
theorem stand_snoc (D : Dk.DS) (x : Nat × List UInt8) (m n : Nat) : ({ D with uf := D.uf ++ [x], n := m } : Dk.DS).stand n = if x.1 = n then x.2 else D.stand n := by
  unfold Dk.DS.stand
  simp only [lastOf_snoc]
  split
  · rfl
  · rfl
theorem wrs_one (S f : Nat) (bs : List (List UInt8)) (k : Nat) : wrs S f bs (k + 1) = wrs S f bs k ++ [(2 + (f + k) % S, bs.getD k [])] := by simp [wrs, List.range_succ]
theorem grow_one (D : Dk.DS) (S f : Nat) (bs : List (List UInt8)) (k : Nat) : grow D S f bs (k + 1) = { grow D S f bs k with uf := (grow D S f bs k).uf ++ [(2 + (f + k) % S, bs.getD k [])], n := (grow D S f bs k).n + 1 } := by
  simp only [grow, wrs_one, List.append_assoc, Nat.add_assoc]
theorem grow_out (D : Dk.DS) (S f : Nat) (bs : List (List UInt8)) (p : Nat) : ∀ k, (∀ i, i < k → 2 + (f + i) % S ≠ p) → (grow D S f bs k).stand p = D.stand p
  | 0, _ => by rw [grow_zero]
  | k + 1, h => by
    rw [grow_one, stand_snoc, if_neg (h k (by omega)), grow_out D S f bs p k (fun i hi => h i (by omega))]
theorem grow_in (D : Dk.DS) (f : Nat) (bs : List (List UInt8)) (i : Nat) : ∀ k, i < k → k ≤ 16 → (grow D 16 f bs k).stand (2 + (f + i) % 16) = bs.getD i []
  | 0, h, _ => by omega
  | k + 1, h, h16 => by
    rw [grow_one, stand_snoc]
    by_cases e : i = k
    · subst e
      rw [if_pos rfl]
    · rw [if_neg (by dsimp only; omega), grow_in D f bs i k (by omega) (by omega)]
end Go.Proofs.Ytkhejjddmbegaaa.J
namespace Go.Proofs.Ytkhejjddmbegaaa.Dk
theorem blk_carryTo (uf : List (Nat × List UInt8)) (d : List UInt8) (nb k : Nat) (hk : k < nb) (hd : d.length = nb * 4096) (hu : ∀ w ∈ uf, w.1 < nb ∧ w.2.length = 4096) : ∀ n, n ≤ uf.length → (carryTo uf d n).length = nb * 4096 ∧ blk (carryTo uf d n) k = (lastOf uf k n).getD (blk d k)
  | 0, _ => ⟨hd, rfl⟩
  | n + 1, h => by
    obtain ⟨ih1, ih2⟩ := blk_carryTo uf d nb k hk hd hu n (by omega)
    have hg : uf[n]? = some uf[n] := List.getElem?_eq_getElem (by omega)
    obtain ⟨hw1, hw2⟩ := hu uf[n] (List.getElem_mem (by omega))
    have hfit : uf[n].1 * 4096 + 4096 ≤ (carryTo uf d n).length := by rw [ih1]; omega
    rw [carryTo, lastOf, hg]
    refine ⟨?_, ?_⟩
    · show (carry (carryTo uf d n) uf[n].1 uf[n].2 255).length = _
      rw [carry_length _ _ _ _ hfit hw2, ih1]
    · show blk (carry (carryTo uf d n) uf[n].1 uf[n].2 255) k = (if uf[n].1 = k then some uf[n].2 else lastOf uf k n).getD (blk d k)
      by_cases e : uf[n].1 = k
      · rw [if_pos e, ← e, blk_carry_all _ _ _ hfit hw2]
        rfl
      · rw [if_neg e, blk_carry_other _ _ _ _ _ hfit hw2 (fun h => e h.symm), ih2]
theorem stand_blk (D : DS) (ok : D.Ok) (k : Nat) (hk : k < D.nb) : blk D.image k = D.stand k := (blk_carryTo D.uf D.dur D.nb k hk ok.len ok.each D.uf.length (Nat.le_refl _)).2
end Go.Proofs.Ytkhejjddmbegaaa.Dk
namespace Go.Proofs.Ytkhejjddmbegaaa.J
theorem stand_flush {D : Dk.DS} (h : Calm D) (ok : D.Ok) (n : Nat) (hn : n < D.nb) : D.flush.stand n = D.stand n := by
  rw [h.flush.1, ← Dk.stand_blk D ok n hn]
  rfl
/-- as the law picks -/
def pk (x : Int) (n : Nat) : Int := if x.tmod n < 0 then x.tmod n + n else x.tmod n
theorem pk_in (x : Int) (n : Nat) (h0 : 0 < n) : 0 ≤ pk x n ∧ pk x n < n := by
  have h1 : x.tmod n < n := Int.tmod_lt_of_pos x (by omega)
  have h2 : -(n : Int) < x.tmod n := Int.lt_tmod_of_pos x (by omega)
  unfold pk
  split <;> omega
theorem pick_eq (x : Int) (n : Nat) (N : Int) (w : World) (hN : N = (n : Int)) (h0 : 0 < n) (hn : n ≤ 2000000) :
    Calls Try.prog 5 #[.int .i64 x, .int .i64 N] w fun e w' => e = .returned (.int .i64 (pk x n)) ∧ w = w' := by
  subst hN
  have h1 : x.tmod n < n := Int.tmod_lt_of_pos x (by omega)
  have h2 : -(n : Int) < x.tmod n := Int.lt_tmod_of_pos x (by omega)
  unfold pk
  obtain ⟨y, hy⟩ : ∃ y, x.tmod n = y := ⟨_, rfl⟩
  rw [hy] at h1 h2 ⊢
  by_cases hneg : y < 0
  · rw [if_pos hneg]
    go_enter Try.func5, Try.ntmps5
    go_wp2
    go_ret
    exact ⟨rfl, rfl⟩
  · rw [if_neg hneg]
    go_enter Try.func5, Try.ntmps5
    go_wp2
    go_ret
    exact ⟨rfl, rfl⟩
end Go.Proofs.Ytkhejjddmbegaaa.J

/-
  Append that takes its places.
-/
namespace Go.Proofs.Ytkhejjddmbegaaa.J
open Go.RowKit
open Go.Proofs.Ytkhejjddmbegaaa.Dk (Box)

/-- what stands behind region 8 of Append -/
def A8 (w4 : World) (S T U H : Int) (v : Value) (u : World) : Prop := ∃ b, v = .pointer (some ⟨b, 0, none⟩) ∧ w4.heap.size ≤ b ∧ Box u b #[.int .i64 S, .int .i64 T, .int .i64 U, .int .i64 H] 89 ∧ Below w4.heap.size w4 u
theorem A8.ofSet {w4 W : World} (hb : Below w4.heap.size w4 W) (hx : Box W w4.heap.size #[.int .i64 0, .int .i64 0, .int .i64 0, .int .i64 0] 89) (S T U H : Int) :
    A8 w4 S T U H (.pointer (some ⟨w4.heap.size, 0, none⟩)) ((((W.setCell ⟨w4.heap.size, 0, none⟩ (.int .i64 S)).setCell ⟨w4.heap.size, 1, none⟩ (.int .i64 T)).setCell ⟨w4.heap.size, 2, none⟩ (.int .i64 U)).setCell ⟨w4.heap.size, 3, none⟩ (.int .i64 H)) :=
  ⟨_, rfl, Nat.le_refl _, by simpa using ((((hx.store 0 (.int .i64 S)).store 1 (.int .i64 T)).store 2 (.int .i64 U)).store 3 (.int .i64 H)), below_set4 hb (Nat.le_refl _) _ _ _ _⟩
theorem A8.ofNew {w4 W : World} (hb : Below w4.heap.size w4 W) (S T U H : Int) :
    A8 w4 S T U H (.pointer (some ⟨W.heap.size, 0, none⟩)) (W.alloc (.cells #[.int .i64 S, .int .i64 T, .int .i64 U, .int .i64 H] 89)) :=
  ⟨_, rfl, hb.size, Dk.Box.new W _ 89, hb.alloc hb.size _⟩

/-- what stands behind region 16 of Append -/
def A16 (w7 : World) (g dg : Nat) (vs : Value) (J : JS) (m : Nat) (ys : List Value) (u : World) : Prop :=
  ∃ vs', Box u g (jC g dg vs' J) 91 ∧ u.ownsRow 0 3 1 vs' m ys ∧ (∀ k, vs'.ownBlock = some k → vs.ownBlock = some k ∨ w7.heap.size ≤ k) ∧ Dk.Upd (fun k => k = g ∨ vs.ownBlock = some k) w7 u
theorem app_end {w w5 w6 w7 w8 : World} {g dg : Nat} {vs : Value} {J : JS} {F Fd F' : Nat → Prop} {D : Dk.DS} {ys : List Int} (hX : F g ∧ ¬ Fd g ∧ ∀ i, F i → i < w.heap.size) (hv : ∀ k, vs.ownBlock = some k → ¬ Fd k ∧ F k) (hFd : ∀ i, Fd i → F i)
    (B5 : Below w.heap.size w w5) (hF6 : ∀ i, F' i → Fd i ∨ w5.heap.size ≤ i) (hd6 : Dk.IsDisk w6 dg D F') (hu6 : Dk.Upd Fd w5 w6) (hu7 : Dk.Upd (· = g) w6 w7) (h8 : A16 w7 g dg vs J ys.length (ics ys) w8) (x : Int) :
    JTo w F g dg { J with next := x } ys D (w8.setCell ⟨g, 4, none⟩ (.int .i64 x)) := by
  obtain ⟨hFF, hFg, hFlt⟩ := hX
  obtain ⟨vs', hb8, hr8, hv8, hu8⟩ := h8
  have z1 := B5.size
  have z2 := hu6.size
  have z3 := hu7.size
  have z4 := hu8.size
  have s := Dk.grown_store w8 g 4 (.int .i64 x)
  have z5 := s.size
  have hg := hFlt g hFF
  have hF6lt : ∀ i, F' i → i < w6.heap.size := fun i hi => by
    obtain ⟨gd, cd, vu, ps, hl⟩ := hd6
    exact hl.flt i hi
  have hngF : ¬ F' g := fun h => by
    rcases hF6 g h with h1 | h1
    · exact hFg h1
    · omega
  have hnv : ∀ k, vs.ownBlock = some k → ¬ F' k ∧ k < w.heap.size := fun k hk => by
    obtain ⟨a1, a2⟩ := hv k hk
    have a3 := hFlt k a2
    refine ⟨fun h => ?_, a3⟩
    rcases hF6 k h with h1 | h1
    · exact a1 h1
    · omega
  have hr8ne : ∀ k, vs'.ownBlock = some k → k ≠ g ∧ k < w8.heap.size := fun k hk => by
    refine ⟨fun e => ?_, (hr8.lt k hk).2⟩
    subst e
    rcases hr8.2 with ⟨e1, _⟩ | ⟨q', cap', cur, e1, _, e2, _⟩
    · rw [e1] at hk; cases hk
    · rw [e1] at hk
      injection hk with hk
      have e' : q' = k := hk
      subst e'
      exact hb8.ne e2 (by decide) rfl
  have hother : ∀ k, k ≠ g → (w8.setCell ⟨g, 4, none⟩ (.int .i64 x)).heap[k]? = w8.heap[k]? := fun k hk => heap_setCell_other w8 ⟨g, 4, none⟩ k _ (by simpa using hk)
  refine ⟨fun i => (F i ∨ w.heap.size ≤ i) ∧ i < (w8.setCell ⟨g, 4, none⟩ (.int .i64 x)).heap.size, ⟨⟨vs', F', box_next hb8 x, disk_kept hd6 (fun i hi => ?_) (by omega), hngF, owns_kept hr8 (fun k hk => hother k (hr8ne k hk).1), fun k hk => ?_, fun i hi => ⟨?_, ?_⟩⟩, ⟨.inl hFF, by omega⟩, fun i hi => hi.2⟩, fun i hi => hi.1, ?_⟩
  · have hig : i ≠ g := fun e => hngF (e ▸ hi)
    have h6 := hF6lt i hi
    rw [hother i hig, hu8.block i (by omega) (fun h => ?_), hu7.block i h6 hig]
    rcases h with h | h
    · exact hig h
    · exact (hnv i h).1 hi
  · obtain ⟨a1, a2⟩ := hr8ne k hk
    rcases hv8 k hk with h | h
    · exact ⟨(hnv k h).1, .inl (hv k h).2, by omega⟩
    · exact ⟨fun hf => by have := hF6lt k hf; omega, .inr (by omega), by omega⟩
  · rcases hF6 i hi with h | h
    · exact .inl (hFd i h)
    · exact .inr (by omega)
  · have := hF6lt i hi
    omega
  · refine ⟨s.os.trans (hu8.os.trans (hu7.os.trans (hu6.os.trans B5.os))), s.tape.trans (hu8.tape.trans (hu7.tape.trans (hu6.tape.trans B5.tape))), s.output.trans (hu8.output.trans (hu7.output.trans (hu6.output.trans B5.output))), by omega, fun k hk hn => ?_⟩
    have hkg : k ≠ g := fun e => hn (e ▸ hFF)
    rw [hother k hkg, hu8.block k (by omega) (fun h => ?_), hu7.block k (by omega) hkg, hu6.block k (by omega) (fun h => hn (hFd k h)), B5.block k hk]
    rcases h with h | h
    · exact hkg h
    · exact hn (hv k h).2

set_option maxRecDepth 100000 in
set_option maxHeartbeats 4000000 in
theorem append_ok {w : World} {g dg n cap : Nat} {al : Option Addr} {J : JS} {is : List (Int × List UInt8)} {xs : List Int} {D : Dk.DS} {F : Nat → Prop} (hJ : JD w g dg J xs D F) (hb : J.broken = false) (hl : is.length = n) (hI : Rc.Imgs w al is)
    (hok : Rc.okGroup J.epoch J.next is) (hR : Rg.R J.S J.T J.U J.H) (h2 : ((n + 1 : Nat) : Int) ≤ Rg.fr J.S J.T J.U J.H)
    (hlog : J.log = 2) (hc : Calm D) (hS : J.S ≤ 64) (hnb : 2 + J.S ≤ D.nb) (hd1 : D.uf.length ≤ 900000) (hd2 : D.n ≤ 900000) (hx : xs.length ≤ 1000) :
    Calls Try.prog 21 #[.pointer (some ⟨g, 0, none⟩), .slice al n cap, .bool false] w fun r w' => r = .returned (.tuple #[.int .i64 J.next, .int .i64 0]) ∧
      JTo w F g dg { J with next := J.next + 1, U := J.U + (n + 1 : Nat), H := J.H - 0 } (xs ++ [((n + 1 : Nat) : Int)]) (grow D J.S.toNat ((J.T + J.U) % J.S).toNat (Rc.putL J.epoch.toNat J.next.toNat is) (n + 1)) w' := by
  obtain ⟨i0, hi, hz0, hz1, hz2⟩ := info_parts Dk.info3
  obtain ⟨⟨vs, Fd, h, hd, hFg, hrow, hFv, hFd⟩, hFF, hFlt⟩ := hJ
  have hn32 : n ≤ 32 := by have := hok.1.2.1; simp at this; omega
  have hst := (Rc.okStamp_iff _ _).1 hok.1.1
  have hfr : Rg.fr J.S J.T J.U J.H = J.S - J.U - J.H := by rw [Rg.fr, if_pos hR]
  rw [hfr] at h2
  have hR' := hR
  unfold Rg.R at hR'
  have hSn : ¬ J.S < (n + 1 : Nat) := by omega
  have ca := app_ahead_ok (cap := cap) h hb hl hI hok
  rw [if_neg hSn] at ca
  have cp := fun u => Rg.put_ok J.S J.T J.U J.H ((n + 1 : Nat) : Int) 0 u hR (by omega) ⟨by omega, by omega, by omega⟩ (by rw [hfr]; omega)
  unfold Rg.ri at cp
  -- the places
  obtain ⟨S, hSe⟩ : ∃ S : Nat, J.S = (S : Int) := ⟨J.S.toNat, by omega⟩
  have hS0 : 0 < S := by omega
  obtain ⟨f, hfe⟩ : ∃ f : Nat, (J.T + J.U) % J.S = (f : Int) := ⟨((J.T + J.U) % J.S).toNat, by have := Int.emod_nonneg (J.T + J.U) (b := J.S) (by omega); omega⟩
  have hfS : f < S := by have := Int.emod_lt_of_pos (J.T + J.U) (b := J.S) (by omega); omega
  have hSt : J.S.toNat = S := by omega
  have hft : ((J.T + J.U) % J.S).toNat = f := by omega
  rw [hSt, hft]
  rw [hfe] at cp
  obtain ⟨U', hU'⟩ : ∃ U', U' = J.U + ((n + 1 : Nat) : Int) := ⟨_, rfl⟩
  obtain ⟨H', hH'⟩ : ∃ H', H' = J.H - 0 := ⟨_, rfl⟩
  rw [← hU', ← hH'] at cp ⊢
  clear hU' hH'
  have hbl : Hid ((Rc.putL J.epoch.toNat J.next.toNat is).length = n + 1) := by show _ = _; rw [Rc.putL_length, hl]
  have hlt := h.lt
  have HW : Hid (∀ w5 cl gl, Below w.heap.size w w5 → New w.heap.size w5 gl (Rc.putL J.epoch.toNat J.next.toNat is) → Calls Try.prog 45 #[.pointer (some ⟨g, 0, none⟩), .slice (some ⟨gl, 0, none⟩) (n + 1) cl, .int .i64 (f : Int)] w5 fun r w' => r = .returned (.int .i64 0) ∧ Wr w5 dg Fd (grow D S f (Rc.putL J.epoch.toNat J.next.toNat is) (n + 1)) w') := fun w5 cl gl B5 hN => by
    have hFd' : ∀ i, w.heap.size ≤ i → ¬ Fd i := fun i hi hf => by have := hFlt i (hFd i hf); omega
    refine write_at (c := cl) (o := 0) (fun k => grow D S f (Rc.putL J.epoch.toNat J.next.toNat is) k) (Rc.putL J.epoch.toNat J.next.toNat is) S f (h.below B5) hFg hSe hlog (by rw [grow_zero]; exact disk_kept hd (fun i hi => B5.block i (hFlt i (hFd i hi))) B5.size) hbl.out (by omega) (fun k hk => ?_) (hFd' _ hN.1) hN.2.1 hS0 (by omega) hfS (fun k hk => ⟨grow_succ hc S f _ k hk, ?_, (grow_calm hc S f _ k).operE, ?_⟩)
    · obtain ⟨q, c, a1, a2, a3, a4, _⟩ := hN.2.2 k hk
      exact ⟨⟨q, 0, none⟩, c, by rw [Nat.zero_add]; exact a1, a2, a3, hFd' q a4⟩
    · have := Nat.mod_lt (f + k) hS0
      show _ < D.nb
      omega
    · have := hbl.out
      constructor
      · show (D.uf ++ wrs S f _ k).length ≤ _
        rw [List.length_append, wrs_length]
        omega
      · show D.n + k ≤ _
        omega
  have H0 : Hid (Box w g (jC g dg vs J) 91) := h
  have HD : Hid (∀ k, vs.ownBlock = some k → ¬ Fd k ∧ F k) := hFv
  have HF : Hid (∀ i, Fd i → F i) := hFd
  have HR : Hid (w.ownsRow 0 3 1 vs xs.length (ics xs)) := hrow
  have HX : Hid (F g ∧ ¬ Fd g ∧ ∀ i, F i → i < w.heap.size) := ⟨hFF, hFg, hFlt⟩
  generalize grow D S f (Rc.putL J.epoch.toNat J.next.toNat is) (n + 1) = D' at HW ⊢
  generalize Rc.putL J.epoch.toNat J.next.toNat is = bs at HW ca hbl
  have hn1 : J.next + 1 ≤ 549755813889 ∧ 1 ≤ J.next := by omega
  clear h hI hok hSn hR h2 hR' hd hFg hrow hFv hFd hFF hFlt hSe hS0 hfe hfS hSt hft hfr hlog hc hS hnb hd1 hd2 hst hb hl
  go_enter Try.func21, Try.ntmps21
  go_wp2_with fail
  refine Calls.mono ca ?_
  rintro r w4 ⟨e, rfl, rfl, hu, gl, cl, hbc, hN⟩
  have B4 := ap3_upd hu
  have z4 : w.heap.size + 3 ≤ w4.heap.size := by have := hu.size; rwa [ap3_size] at this
  have HA : Hid (Box w4 w.heap.size #[.pointer (some ⟨g, 0, none⟩)] 58) := (hu.block w.heap.size (by rw [ap3_size]; omega) (by show ¬ w.heap.size = w.heap.size + 2; omega)).trans (ap3_a w g al n cap)
  have HC : Hid (Box w4 (w.heap.size + 2) #[.slice (some ⟨gl, 0, none⟩) (n + 1) cl] 48) := hbc
  have HN : Hid (New w.heap.size w4 gl bs) := by
    obtain ⟨n1, n2, n3⟩ := hN
    rw [ap3_size] at n1
    refine ⟨by omega, n2, fun k hk => ?_⟩
    obtain ⟨q, c, a1, a2, a3, a4, a5⟩ := n3 k hk
    rw [ap3_size] at a4
    exact ⟨q, c, a1, a2, a3, by omega, a5⟩
  have HS : Hid (∀ u, Below w4.heap.size w4 u → R8 w g gl n cl J u) := fun u bu => by
    have hz := bu.size
    obtain ⟨_, _, _, _, _, _, c6, c7, c8, c9, _, _⟩ := box_cells (H0.out.below B4)
    have ca := HA.out.cell 0
    have cc := hbc.cell 0
    simp at ca cc
    have hg4 : g < w4.heap.size := by omega
    exact ⟨(bu.cell (p := ⟨w.heap.size, 0, none⟩) HA.out.lt).trans ca, (bu.cell (p := ⟨g, 6, none⟩) hg4).trans c6, (bu.cell (p := ⟨g, 7, none⟩) hg4).trans c7, (bu.cell (p := ⟨g, 8, none⟩) hg4).trans c8, (bu.cell (p := ⟨g, 9, none⟩) hg4).trans c9, (bu.cell (p := ⟨w.heap.size + 2, 0, none⟩) hbc.lt).trans cc⟩
  have ccx := hbc.cell 0
  simp at ccx
  clear hu hbc hN ca
  go_upto_region 8 with fail
  clear ccx
  go_cut [9, 11, 12] from 24 (fun v9 v11 v12 u => v9 = .int .i64 0 ∧ v12 = .int .i64 (f : Int) ∧ A8 w4 J.S J.T U' H' v11 u)
  case first =>
    go_region_held3 (fun u => u.cell? ⟨w.heap.size, 0, none⟩ = some (.pointer (some ⟨g, 0, none⟩)) ∧ u.cell? ⟨g, 6, none⟩ = some (.int .i64 J.S) ∧ u.cell? ⟨g, 7, none⟩ = some (.int .i64 J.T) ∧ u.cell? ⟨g, 8, none⟩ = some (.int .i64 J.U) ∧ u.cell? ⟨g, 9, none⟩ = some (.int .i64 J.H) ∧ u.cell? ⟨w.heap.size + 2, 0, none⟩ = some (.slice (some ⟨gl, 0, none⟩) (n + 1) cl))
      (first
        | with_reducible exact HS.out _ ((Below.refl w4.heap.size w4).drew)
        | with_reducible exact HS.out _ hb1
        | with_reducible exact HS.out _ (((Below.refl w4.heap.size w4).alloc (Nat.le_refl _) _).drew)
        | with_reducible exact HS.out _ (hb1.alloc hb1.size _)
        | with_reducible exact HS.out _ (below_set4 hb1 (Nat.le_refl _) _ _ _ _))
      (first
        | (go_at_call 44; refine Calls.mono (cp w4.drew) ?_; rintro r W ⟨rfl, hw1⟩; have hb1 : Below w4.heap.size w4 W := (Below.refl w4.heap.size w4).drew.trans hw1)
        | (go_at_call 44; refine Calls.mono (cp (w4.alloc (.cells #[.int .i64 0, .int .i64 0, .int .i64 0, .int .i64 0] 89)).drew) ?_; rintro r W ⟨rfl, hw1⟩; have hb1 : Below w4.heap.size w4 W := ((Below.refl w4.heap.size w4).alloc (Nat.le_refl _) _).drew.trans (hw1.mono (by simp)); have hnb := (hw1.block w4.heap.size (by simp)).trans (Dk.Box.new w4 #[.int .i64 0, .int .i64 0, .int .i64 0, .int .i64 0] 89); obtain ⟨⟨q0, q1, q2, q3⟩, p0, p1, p2, p3⟩ := box4 hnb))
    all_goals
      go_wp2_with fail
      go_meet
      case rel =>
        first
          | exact ⟨rfl, rfl, A8.ofSet hb1 hnb _ _ _ _⟩
          | exact ⟨rfl, rfl, A8.ofNew hb1 _ _ _ _⟩
  case rest =>
    obtain ⟨rfl, rfl, b5, rfl, hb5, hx5, B5⟩ := hcut
    have B5w : Below w.heap.size w wc := B4.trans (B5.mono B4.size)
    have hN5 : New w.heap.size wc gl bs := HN.out.kept B5.size (fun k h1 h2 => B5.block k h2)
    have cW := HW.out wc cl gl B5w hN5
    have ha5 := HA.out.below B5
    have hc5 := HC.out.below B5
    have y1 := ha5.cell 0
    have y2 := hc5.cell 0
    simp at y1 y2
    have HX5 : Hid (Box wc b5 #[.int .i64 J.S, .int .i64 J.T, .int .i64 U', .int .i64 H'] 89) := hx5
    clear HS hx5 HW
    go_wp2_with fail
    refine Calls.mono cW ?_
    rintro r w6 ⟨rfl, F', hd6, hF6, hu6⟩
    have HD6 : Hid (Dk.IsDisk w6 dg D' F') := hd6
    have HF6 : Hid (∀ i, F' i → Fd i ∨ wc.heap.size ≤ i) := hF6
    have HU6 : Hid (Dk.Upd Fd wc w6) := hu6
    have hFd' : ∀ i, w.heap.size ≤ i → ¬ Fd i := fun i hi hf => by have := HX.out.2.2 i (HF.out i hf); omega
    have g6 : Box w6 g (jC g dg vs J) 91 := (hu6.block g (Nat.lt_of_lt_of_le hlt B5w.size) HX.out.2.1).trans (H0.out.below B5w)
    have a6 : Box w6 w.heap.size #[.pointer (some ⟨g, 0, none⟩)] 58 := (hu6.block _ ha5.lt (hFd' _ (Nat.le_refl _))).trans ha5
    have c6 : Box w6 (w.heap.size + 2) #[.slice (some ⟨gl, 0, none⟩) (n + 1) cl] 48 := (hu6.block _ hc5.lt (hFd' _ (by omega))).trans hc5
    have x6 : Box w6 b5 #[.int .i64 J.S, .int .i64 J.T, .int .i64 U', .int .i64 H'] 89 := (hu6.block _ HX5.out.lt (hFd' _ (by omega))).trans HX5.out
    clear hd6 hF6 hu6 cW y1 y2 ha5 hc5 HX5 hN5 HN
    obtain ⟨g0, g1, g2, g3, g4, g5, g6c, g7, g8, g9, g10, g11⟩ := box_cells g6
    have f6 := g6.frozen 6
    have f7 := g6.frozen 7
    have f8 := g6.frozen 8
    have f9 := g6.frozen 9
    have y1 := a6.cell 0
    have y2 := c6.cell 0
    simp at y1 y2
    obtain ⟨⟨x0, x1, x2, x3⟩, _⟩ := box4 x6
    have g7b := box_ring g6 J.S J.T U' H'
    have hU7 := upd_set (upd_set (upd_set (upd_set (Dk.Upd.refl (· = g) w6) g 6 (.inl rfl) (.int .i64 J.S)) g 7 (.inl rfl) (.int .i64 J.T)) g 8 (.inl rfl) (.int .i64 U')) g 9 (.inl rfl) (.int .i64 H')
    go_upto_region 16 with fail
    generalize (((w6.setCell ⟨g, 6, none⟩ (.int .i64 J.S)).setCell ⟨g, 7, none⟩ (.int .i64 J.T)).setCell ⟨g, 8, none⟩ (.int .i64 U')).setCell ⟨g, 9, none⟩ (.int .i64 H') = w7 at g7b hU7 ⊢
    have hz67 := hU7.size
    have hne : ∀ q (cs : Array Value) (t : TypeId), Box w6 q cs t → t ≠ 91 → q ≠ g := fun q cs t hq ht e => (e ▸ hq : Box w6 g cs t).ne g6 ht rfl
    have a7 : Box w7 w.heap.size #[.pointer (some ⟨g, 0, none⟩)] 58 := (hU7.block _ a6.lt (hne _ _ _ a6 (by decide))).trans a6
    have c7 : Box w7 (w.heap.size + 2) #[.slice (some ⟨gl, 0, none⟩) (n + 1) cl] 48 := (hU7.block _ c6.lt (hne _ _ _ c6 (by decide))).trans c6
    have r7 : w7.ownsRow 0 3 1 vs xs.length (ics xs) := by
      have hr := HR.out
      have hv : ∀ k, vs.ownBlock = some k → k < w.heap.size ∧ ¬ Fd k := fun k hk => ⟨HX.out.2.2 k (HD.out k hk).2, (HD.out k hk).1⟩
      have r5 := owns_kept hr (fun k hk => B5w.block k (hv k hk).1)
      have r6 := owns_kept r5 (fun k hk => HU6.out.block k (Nat.lt_of_lt_of_le (hv k hk).1 B5w.size) (hv k hk).2)
      refine owns_kept r6 (fun k hk => hU7.block k ?_ (fun e => ?_))
      · exact Nat.lt_of_lt_of_le (Nat.lt_of_lt_of_le (hv k hk).1 B5w.size) HU6.out.size
      · subst e
        rcases r6.2 with ⟨q, _⟩ | ⟨q, cap', cur, q1, _, q2, _⟩
        · rw [q] at hk; cases hk
        · rw [q1] at hk
          injection hk with hk
          have hk' : q = k := hk
          subst hk'
          exact hne q _ 3 q2 (by decide) rfl
    clear g0 g1 g2 g3 g4 g5 g6c g7 g8 g9 g10 g11 f6 f7 f8 f9 y1 y2 x0 x1 x2 x3 x6 a6 c6
    have y1 := a7.cell 0
    have y2 := c7.cell 0
    simp at y1 y2
    obtain ⟨vp, vc, rfl⟩ : ∃ a c, vs = .slice a xs.length c := by
      rcases r7.2 with ⟨q, q0⟩ | ⟨q, cap', cur, q1, _⟩
      · exact ⟨none, 0, by rw [q, q0]⟩
      · exact ⟨_, _, q1⟩
    have HG7 : Hid (Box w7 g (jC g dg (.slice vp xs.length vc) { J with U := U', H := H' }) 91) := g7b
    have HR7 : Hid (w7.ownsRow 0 3 1 (.slice vp xs.length vc) xs.length (ics xs)) := r7
    have HU7 : Hid (Dk.Upd (· = g) w6 w7) := hU7
    have HA7 : Hid (Box w7 w.heap.size #[.pointer (some ⟨g, 0, none⟩)] 58) := a7
    have HC7 : Hid (Box w7 (w.heap.size + 2) #[.slice (some ⟨gl, 0, none⟩) (n + 1) cl] 48) := c7
    clear g7b r7 hU7 hne a7 c7 g6 y1 y2
    go_cut [] from 54 (fun u => A16 w7 g dg (.slice vp xs.length vc) { J with U := U', H := H' } (xs.length + 1) (ics xs ++ [.int .i64 ((n : Int) + 1)]) u)
    case first =>
      have l7a := HA7.out.lt
      have HS : Hid (∀ u : World, (∀ k, k < w7.heap.size → k ≠ g → (Value.slice vp xs.length vc).ownBlock ≠ some k → u.heap[k]? = w7.heap[k]?) → u.cell? ⟨w.heap.size, 0, none⟩ = some (.pointer (some ⟨g, 0, none⟩)) ∧ u.cell? ⟨w.heap.size + 2, 0, none⟩ = some (.slice (some ⟨gl, 0, none⟩) (n + 1) cl)) := fun u hu => by
        have hv : ∀ q (cs : Array Value) (t : TypeId), Box w7 q cs t → t ≠ 3 → (Value.slice vp xs.length vc).ownBlock ≠ some q := fun q cs t hq ht e => by
          rcases HR7.out.2 with ⟨e1, _⟩ | ⟨q', cap', cur, e1, _, e2, _⟩
          · rw [e1] at e; cases e
          · rw [e1] at e
            injection e with e
            have e' : q' = q := e
            subst e'
            exact hq.ne e2 ht rfl
        have y1 := HA7.out.cell 0
        have y2 := HC7.out.cell 0
        simp at y1 y2
        exact ⟨(World.cell?_of_block (a := ⟨w.heap.size, 0, none⟩) (hu _ HA7.out.lt (fun e => HA7.out.ne HG7.out (by decide) e) (hv _ _ _ HA7.out (by decide)))).trans y1,
          (World.cell?_of_block (a := ⟨w.heap.size + 2, 0, none⟩) (hu _ HC7.out.lt (fun e => HC7.out.ne HG7.out (by decide) e) (hv _ _ _ HC7.out (by decide)))).trans y2⟩
      have g10 := (box_cells HG7.out).2.2.2.2.2.2.2.2.2.2.1
      refine wp_region_noPanic ?_
      refine wp_region_held_drew (S := fun u => u.cell? ⟨w.heap.size, 0, none⟩ = some (.pointer (some ⟨g, 0, none⟩)) ∧ u.cell? ⟨w.heap.size + 2, 0, none⟩ = some (.slice (some ⟨gl, 0, none⟩) (n + 1) cl)) (by kernel_rfl) (HS.out _ (fun _ _ _ _ => rfl)) (fun hHeld => ?_)
      refine wpAnyH_take (i := 0) (v := ?_) rfl (by kernel_rfl) (by kernel_rfl) (by kernel_rfl) (fun _ _ _ h => h) (Or.inl ⟨by rfl, ?_⟩) (by assumption) ?_
      rotate_left
      · intro w hSw
        go_simp
        with_reducible rfl
      simp only [Act.put, List.setIfInBounds_toArray, List.set_cons_zero, List.set_cons_succ, List.getElem_toArray, List.getElem_cons_zero]
      refine wpAnyH_take (i := 1) (v := ?_) rfl (by kernel_rfl) (by kernel_rfl) (by kernel_rfl) (fun _ _ _ h => h) (Or.inl ⟨by rfl, ?_⟩) (by assumption) ?_
      rotate_left
      · intro w hSw
        go_simp
        with_reducible rfl
      simp only [Act.put, List.setIfInBounds_toArray, List.set_cons_zero, List.set_cons_succ, List.getElem_toArray, List.getElem_cons_zero, List.getElem_cons_succ]
      refine wpAnyH_take (i := 2) (v := ?_) rfl (by kernel_rfl) (by kernel_rfl) (by kernel_rfl) (fun _ _ _ h => h) (Or.inl ⟨by rfl, ?_⟩) (by assumption) ?_
      rotate_left
      · intro w hSw
        go_simp
        with_reducible rfl
      simp only [Act.put, List.setIfInBounds_toArray, List.set_cons_zero, List.set_cons_succ, List.getElem_toArray, List.getElem_cons_zero, List.getElem_cons_succ]
      refine wpAnyH_take (i := 3) (v := ?_) rfl (by kernel_rfl) (by kernel_rfl) (by kernel_rfl) (fun _ _ _ h => h) (Or.inl ⟨by rfl, ?_⟩) (by assumption) ?_
      rotate_left
      · intro w hSw
        go_simp
        with_reducible rfl
      simp only [Act.put, List.setIfInBounds_toArray, List.set_cons_zero, List.set_cons_succ, List.getElem_toArray, List.getElem_cons_zero, List.getElem_cons_succ]
      refine wpAnyH_take (i := 5) (v := ?_) rfl (by kernel_rfl) (by kernel_rfl) (by kernel_rfl) (fun _ _ _ h => h) (Or.inl ⟨by rfl, ?_⟩) (by assumption) ?_
      rotate_left
      · intro w hSw
        go_simp
        with_reducible rfl
      simp only [Act.put, List.setIfInBounds_toArray, List.set_cons_zero, List.set_cons_succ, List.getElem_toArray, List.getElem_cons_zero, List.getElem_cons_succ]
      refine wpAnyH_take (i := 6) (v := ?_) rfl (by kernel_rfl) (by kernel_rfl) (by kernel_rfl) (fun _ _ _ h => h) (Or.inl ⟨by rfl, ?_⟩) (by assumption) ?_
      rotate_left
      · intro w hSw
        go_simp
        with_reducible rfl
      simp only [Act.put, List.setIfInBounds_toArray, List.set_cons_zero, List.set_cons_succ, List.getElem_toArray, List.getElem_cons_zero, List.getElem_cons_succ]
      have g10a : ∀ o : Obj, (w7.alloc o).cell? ⟨g, 10, none⟩ = some (.slice vp xs.length vc) := fun o => (box_cells (HG7.out.alloc o)).2.2.2.2.2.2.2.2.2.2.1
      refine wpAnyH_ready (rs := [4, 7]) (by kernel_rfl) (by simp) ?_
      refine AllReadyH.cons rfl (fun K hK => ?_) (AllReadyH.cons rfl (fun K hK => ?_) AllReadyH.nil)
      · go_simp
        refine hK.out _ _ (HS.out _ (fun _ _ _ _ => rfl)) (fun hHeld => ?_)
        clear hK K
        refine wpAnyH_ready (rs := [7]) (by kernel_rfl) (by simp) ?_
        refine AllReadyH.cons rfl (fun K hK => ?_) AllReadyH.nil
        go_simp
        refine hK.out _ _ (HS.out _ (fun k hk _ _ => heap_alloc_old _ _ hk)) (fun hHeld => ?_)
        clear hK K
        refine wpAnyH_ready (rs := [8]) (by kernel_rfl) (by simp) ?_
        refine AllReadyH.cons rfl (fun K hK => ?_) AllReadyH.nil
        refine step_append_lies _ (by rfl) _ _ _ (by rfl) 0 3 i0 _ 1 8 Try.underlying22 hi hz0 hz1 hz2 rfl (by omega) (.slice vp xs.length vc) xs.length (ics xs) (by rfl) (owns_kept HR7.out (fun k hk => heap_alloc_old w7 _ (HR7.out.lt k hk).2))
          ⟨w7.heap.size, 0, none⟩ 1 1 [.int .i64 ((n : Int) + 1)] (by rfl) (by rfl) (World.news_of_block (cs := #[.int .i64 ((n : Int) + 1)]) (t := 3) (fr := (0, 0)) (heap_alloc_new w7 _)) (by intro u hu; simp at hu; subst hu; rfl)
          (by omega) (by unfold maxLen; omega) (by omega) (by omega) (w7.heap.size + 1) (by simp) ?_
        intro gg gc w8 hown8 hgrow hat hlt8
        have hz8 := hgrow.size
        have hzA : w7.heap.size + 1 ≤ w8.heap.size := by simpa using hz8
        have hk8 : ∀ k, k < w7.heap.size → (Value.slice vp xs.length vc).ownBlock ≠ some k → w8.heap[k]? = w7.heap[k]? := fun k hk hne => (hgrow.block k (by simp; omega) (fun e => hne e.symm)).trans (heap_alloc_old w7 _ hk)
        have hng : (Value.slice vp xs.length vc).ownBlock ≠ some g := fun e => by
          rcases HR7.out.2 with ⟨e1, _⟩ | ⟨q', cap', cur, e1, _, e2, _⟩
          · rw [e1] at e; cases e
          · rw [e1] at e
            injection e with e
            have e' : q' = g := e
            subst e'
            exact HG7.out.ne e2 (by decide) rfl
        have G8 : Hid (Box w8 g (jC g dg (.slice vp xs.length vc) { J with U := U', H := H' }) 91) := (hk8 g HG7.out.lt hng).trans HG7.out
        have R8' : Hid (w8.ownsRow 0 3 1 (.slice (some ⟨gg, 0, none⟩) (xs.length + 1) gc) (xs.length + 1) (ics xs ++ [.int .i64 ((n : Int) + 1)])) := hown8
        have g8c := (box_cells G8.out).2.2.2.2.2.2.2.2.2.2.1
        have g8f := G8.out.frozen 10
        have HT8 : Hid ((Value.slice vp xs.length vc).ownBlock = some gg ∨ gg = w7.heap.size + 1) := hat
        have HK8 : Hid (∀ k, k < w7.heap.size → (Value.slice vp xs.length vc).ownBlock ≠ some k → w8.heap[k]? = w7.heap[k]?) := hk8
        have HO8 : Hid (w8.os = w7.os ∧ w8.tape = w7.tape ∧ w8.output = w7.output) := ⟨hgrow.os, hgrow.tape, hgrow.output⟩
        have hgne : gg ≠ g := fun e => by
          subst e
          rcases hown8.2 with ⟨e1, _⟩ | ⟨q', cap', cur, e1, _, e2, _⟩
          · cases e1
          · injection e1 with e1
            injection e1 with e1
            injection e1 with e1
            subst e1
            exact G8.out.ne e2 (by decide) rfl
        refine hK.out _ _ (HS.out _ (fun k hk _ hv => hk8 k hk hv)) (fun hHeld => ?_)
        clear hK K hown8 hgrow hat hk8 hng hz8
        simp only [Act.put, List.setIfInBounds_toArray, List.set_cons_zero, List.set_cons_succ, List.getElem_toArray, List.getElem_cons_zero, List.getElem_cons_succ]
        refine wpAnyH_take (i := 9) (v := ?_) rfl (by kernel_rfl) (by kernel_rfl) (by kernel_rfl) (fun _ _ _ h => h) (Or.inl ⟨by rfl, ?_⟩) (by assumption) ?_
        rotate_left
        · intro w hSw
          go_simp
          with_reducible rfl
        simp only [Act.put, List.setIfInBounds_toArray, List.set_cons_zero, List.set_cons_succ, List.getElem_toArray, List.getElem_cons_zero, List.getElem_cons_succ]
        refine wpAnyH_take (i := 10) (v := ?_) rfl (by kernel_rfl) (by kernel_rfl) (by kernel_rfl) (fun _ _ _ h => h) (Or.inl ⟨by rfl, ?_⟩) (by assumption) ?_
        rotate_left
        · intro w hSw
          go_simp
          with_reducible rfl
        simp only [Act.put, List.setIfInBounds_toArray, List.set_cons_zero, List.set_cons_succ, List.getElem_toArray, List.getElem_cons_zero, List.getElem_cons_succ]
        refine wpAnyH_ready (rs := [11]) (by kernel_rfl) (by simp) ?_
        refine AllReadyH.cons rfl (fun K hK => ?_) AllReadyH.nil
        go_simp
        refine hK.out _ _ (HS.out _ (fun k hk hkg hv => (heap_setCell_other w8 ⟨g, 10, none⟩ k _ (by simpa using hkg)).trans (HK8.out k hk hv))) (fun hHeld => ?_)
        clear hK K
        refine wpAnyH_done (by kernel_rfl) ?_ _
        refine NoPanic.normal ?_
        go_wp2_with fail
        go_meet
        case rel =>
          refine ⟨_, box_sizes G8.out _, owns_kept R8'.out (fun k hk => ?_), fun k hk => ?_, ?_⟩
          · have : gg = k := by injection hk
            subst this
            exact heap_setCell_other w8 ⟨g, 10, none⟩ gg _ (by simpa using hgne)
          · have : gg = k := by injection hk
            subst this
            rcases HT8.out with h1 | h1
            · exact .inl h1
            · exact .inr (by omega)
          · obtain ⟨o1, o2, o3⟩ := HO8.out
            have s := Dk.grown_store w8 g 10 (.slice (some ⟨gg, 0, none⟩) (xs.length + 1) gc)
            have sz := s.size
            exact ⟨s.os.trans o1, s.tape.trans o2, s.output.trans o3, by omega, fun k hk hn => (heap_setCell_other w8 ⟨g, 10, none⟩ k _ (by simpa using fun e => hn (.inl e))).trans (HK8.out k hk (fun e => hn (.inr e)))⟩
      · go_simp
        refine hK.out _ _ (HS.out _ (fun k hk _ _ => heap_alloc_old _ _ hk)) (fun hHeld => ?_)
        clear hK K
        refine wpAnyH_ready (rs := [4]) (by kernel_rfl) (by simp) ?_
        refine AllReadyH.cons rfl (fun K hK => ?_) AllReadyH.nil
        go_simp
        refine hK.out _ _ (HS.out _ (fun k hk _ _ => heap_alloc_old _ _ hk)) (fun hHeld => ?_)
        clear hK K
        refine wpAnyH_ready (rs := [8]) (by kernel_rfl) (by simp) ?_
        refine AllReadyH.cons rfl (fun K hK => ?_) AllReadyH.nil
        refine step_append_lies _ (by rfl) _ _ _ (by rfl) 0 3 i0 _ 1 8 Try.underlying22 hi hz0 hz1 hz2 rfl (by omega) (.slice vp xs.length vc) xs.length (ics xs) (by rfl) (owns_kept HR7.out (fun k hk => heap_alloc_old w7 _ (HR7.out.lt k hk).2))
          ⟨w7.heap.size, 0, none⟩ 1 1 [.int .i64 ((n : Int) + 1)] (by rfl) (by rfl) (World.news_of_block (cs := #[.int .i64 ((n : Int) + 1)]) (t := 3) (fr := (0, 0)) (heap_alloc_new w7 _)) (by intro u hu; simp at hu; subst hu; rfl)
          (by omega) (by unfold maxLen; omega) (by omega) (by omega) (w7.heap.size + 1) (by simp) ?_
        intro gg gc w8 hown8 hgrow hat hlt8
        have hz8 := hgrow.size
        have hzA : w7.heap.size + 1 ≤ w8.heap.size := by simpa using hz8
        have hk8 : ∀ k, k < w7.heap.size → (Value.slice vp xs.length vc).ownBlock ≠ some k → w8.heap[k]? = w7.heap[k]? := fun k hk hne => (hgrow.block k (by simp; omega) (fun e => hne e.symm)).trans (heap_alloc_old w7 _ hk)
        have hng : (Value.slice vp xs.length vc).ownBlock ≠ some g := fun e => by
          rcases HR7.out.2 with ⟨e1, _⟩ | ⟨q', cap', cur, e1, _, e2, _⟩
          · rw [e1] at e; cases e
          · rw [e1] at e
            injection e with e
            have e' : q' = g := e
            subst e'
            exact HG7.out.ne e2 (by decide) rfl
        have G8 : Hid (Box w8 g (jC g dg (.slice vp xs.length vc) { J with U := U', H := H' }) 91) := (hk8 g HG7.out.lt hng).trans HG7.out
        have R8' : Hid (w8.ownsRow 0 3 1 (.slice (some ⟨gg, 0, none⟩) (xs.length + 1) gc) (xs.length + 1) (ics xs ++ [.int .i64 ((n : Int) + 1)])) := hown8
        have g8c := (box_cells G8.out).2.2.2.2.2.2.2.2.2.2.1
        have g8f := G8.out.frozen 10
        have HT8 : Hid ((Value.slice vp xs.length vc).ownBlock = some gg ∨ gg = w7.heap.size + 1) := hat
        have HK8 : Hid (∀ k, k < w7.heap.size → (Value.slice vp xs.length vc).ownBlock ≠ some k → w8.heap[k]? = w7.heap[k]?) := hk8
        have HO8 : Hid (w8.os = w7.os ∧ w8.tape = w7.tape ∧ w8.output = w7.output) := ⟨hgrow.os, hgrow.tape, hgrow.output⟩
        have hgne : gg ≠ g := fun e => by
          subst e
          rcases hown8.2 with ⟨e1, _⟩ | ⟨q', cap', cur, e1, _, e2, _⟩
          · cases e1
          · injection e1 with e1
            injection e1 with e1
            injection e1 with e1
            subst e1
            exact G8.out.ne e2 (by decide) rfl
        refine hK.out _ _ (HS.out _ (fun k hk _ hv => hk8 k hk hv)) (fun hHeld => ?_)
        clear hK K hown8 hgrow hat hk8 hng hz8
        simp only [Act.put, List.setIfInBounds_toArray, List.set_cons_zero, List.set_cons_succ, List.getElem_toArray, List.getElem_cons_zero, List.getElem_cons_succ]
        refine wpAnyH_take (i := 9) (v := ?_) rfl (by kernel_rfl) (by kernel_rfl) (by kernel_rfl) (fun _ _ _ h => h) (Or.inl ⟨by rfl, ?_⟩) (by assumption) ?_
        rotate_left
        · intro w hSw
          go_simp
          with_reducible rfl
        simp only [Act.put, List.setIfInBounds_toArray, List.set_cons_zero, List.set_cons_succ, List.getElem_toArray, List.getElem_cons_zero, List.getElem_cons_succ]
        refine wpAnyH_take (i := 10) (v := ?_) rfl (by kernel_rfl) (by kernel_rfl) (by kernel_rfl) (fun _ _ _ h => h) (Or.inl ⟨by rfl, ?_⟩) (by assumption) ?_
        rotate_left
        · intro w hSw
          go_simp
          with_reducible rfl
        simp only [Act.put, List.setIfInBounds_toArray, List.set_cons_zero, List.set_cons_succ, List.getElem_toArray, List.getElem_cons_zero, List.getElem_cons_succ]
        refine wpAnyH_ready (rs := [11]) (by kernel_rfl) (by simp) ?_
        refine AllReadyH.cons rfl (fun K hK => ?_) AllReadyH.nil
        go_simp
        refine hK.out _ _ (HS.out _ (fun k hk hkg hv => (heap_setCell_other w8 ⟨g, 10, none⟩ k _ (by simpa using hkg)).trans (HK8.out k hk hv))) (fun hHeld => ?_)
        clear hK K
        refine wpAnyH_done (by kernel_rfl) ?_ _
        refine NoPanic.normal ?_
        go_wp2_with fail
        go_meet
        case rel =>
          refine ⟨_, box_sizes G8.out _, owns_kept R8'.out (fun k hk => ?_), fun k hk => ?_, ?_⟩
          · have : gg = k := by injection hk
            subst this
            exact heap_setCell_other w8 ⟨g, 10, none⟩ gg _ (by simpa using hgne)
          · have : gg = k := by injection hk
            subst this
            rcases HT8.out with h1 | h1
            · exact .inl h1
            · exact .inr (by omega)
          · obtain ⟨o1, o2, o3⟩ := HO8.out
            have s := Dk.grown_store w8 g 10 (.slice (some ⟨gg, 0, none⟩) (xs.length + 1) gc)
            have sz := s.size
            exact ⟨s.os.trans o1, s.tape.trans o2, s.output.trans o3, by omega, fun k hk hn => (heap_setCell_other w8 ⟨g, 10, none⟩ k _ (by simpa using fun e => hn (.inl e))).trans (HK8.out k hk (fun e => hn (.inr e)))⟩
    case rest =>
      have h8 := hcut
      have A8' : A16 w7 g dg (.slice vp xs.length vc) { J with U := U', H := H' } (xs ++ [((n + 1 : Nat) : Int)]).length (ics (xs ++ [((n + 1 : Nat) : Int)])) wc := by
        rw [ics_snoc, List.length_append]
        exact hcut
      have fin := app_end HX.out HD.out HF.out B5w HF6.out HD6.out HU6.out HU7.out A8' (J.next + 1)
      obtain ⟨vs', hb8, hr8, hv8, hu8⟩ := h8
      have a8 : Box wc w.heap.size #[.pointer (some ⟨g, 0, none⟩)] 58 := (hu8.block _ HA7.out.lt (fun h => by
        rcases h with h | h
        · exact HA7.out.ne HG7.out (by decide) h
        · rcases HR7.out.2 with ⟨e1, _⟩ | ⟨q', cap', cur, e1, _, e2, _⟩
          · rw [e1] at h; cases h
          · rw [e1] at h
            injection h with h
            have e' : q' = w.heap.size := h
            rw [e'] at e2
            exact HA7.out.ne e2 (by decide) rfl)).trans HA7.out
      have y1 := a8.cell 0
      simp at y1
      have d4 := (box_cells hb8).2.2.2.2.1
      dsimp only at d4
      have f4 := hb8.frozen 4
      clear A8' hcut HA7 HC7 HR7 HG7 hu8 hv8 hr8 a8 HU6 HU7
      go_wp2_with fail
      exact bodyPost_ret (v := .tuple #[.int .i64 J.next, .int .i64 0]) (by simp [results, Try.results21, go_sem]) rfl ⟨rfl, fin⟩
end Go.Proofs.Ytkhejjddmbegaaa.J

/-
  The law's disk with groups appended, as many as there is room for.
-/
namespace Go.Proofs.Ytkhejjddmbegaaa.S
open Go.RowKit
open Go.Proofs.Ytkhejjddmbegaaa.Dk (Box)
open Go.Proofs.Ytkhejjddmbegaaa.J (JD JTo ics grow owns_kept upd_below pk pk_in pick_eq)

/-- images whose memory is none of F -/
def ImF (F : Nat → Prop) (w : World) (al : Option Addr) (n cl : Nat) (is : List (Int × List UInt8)) : Prop :=
  ∃ qs : List Rc.GG, w.ownsRow 0 94 2 (.slice al n cl) n (Rc.imgC qs) ∧ Rc.GetJ 0 w qs ∧ qs.length = n ∧ qs.map (fun p => (p.b, p.xs)) = is ∧ (∀ k, (Value.slice al n cl).ownBlock = some k → ¬ F k) ∧ ∀ q ∈ qs, ¬ F q.h
section
variable {F F' : Nat → Prop} {w w' : World} {al : Option Addr} {n cl : Nat} {is : List (Int × List UInt8)}
theorem ImF.upd (h : ImF F w al n cl is) (u : Dk.Upd F w w') (hF : ∀ i, F' i → F i ∨ w.heap.size ≤ i) : ImF F' w' al n cl is := by
  obtain ⟨qs, h1, h2, h3, h4, h5, h6⟩ := h
  refine ⟨qs, owns_kept h1 (fun k hk => u.block k (h1.lt k hk).2 (h5 k hk)), ⟨fun p hp => ?_, h2.apart⟩, h3, h4, fun k hk hf => (hF k hf).elim (h5 k hk) (fun h => by have := (h1.lt k hk).2; omega), fun q hq hf => (hF q.h hf).elim (h6 q hq) (fun h => by have := (h2.rows q hq).1.lt; omega)⟩
  obtain ⟨a1, a2⟩ := h2.rows p hp
  exact ⟨a1.same (u.block p.h a1.lt (h6 p hp)), a2⟩
theorem ImF.keep (h : ImF F w al n cl is) (hk : ∀ k, k < w.heap.size → ¬ F k → w'.heap[k]? = w.heap[k]?) : ImF F w' al n cl is := by
  obtain ⟨qs, h1, h2, h3, h4, h5, h6⟩ := h
  refine ⟨qs, owns_kept h1 (fun k hk' => hk k (h1.lt k hk').2 (h5 k hk')), ⟨fun p hp => ?_, h2.apart⟩, h3, h4, h5, h6⟩
  obtain ⟨a1, a2⟩ := h2.rows p hp
  exact ⟨a1.same (hk p.h a1.lt (h6 p hp)), a2⟩
theorem ImF.below (h : ImF F w al n cl is) (b : Below w.heap.size w w') : ImF F w' al n cl is := h.upd (upd_below b) (fun _ h => .inl h)
theorem ImF.imgs (h : ImF F w al n cl is) : Rc.Imgs w al is := by
  obtain ⟨qs, h1, h2, h3, h4, _⟩ := h
  have := Rc.imgs_of h1 h2 h3
  rwa [h4] at this
theorem ImF.kept (h : ImF F w al n cl is) (hk : ∀ k, k < w.heap.size → (∀ cur, ¬ Box w k cur 50) → w'.heap[k]? = w.heap[k]?) : ImF F w' al n cl is := by
  obtain ⟨qs, h1, h2, h3, h4, h5, h6⟩ := h
  refine ⟨qs, owns_kept h1 (fun k hk' => hk k (h1.lt k hk').2 (fun cur hb => ?_)), ⟨fun p hp => ?_, h2.apart⟩, h3, h4, h5, h6⟩
  · obtain ⟨_, cur', hb'⟩ := Rc.owns_block h1 k hk'
    exact hb.ne hb' (by decide) rfl
  · obtain ⟨a1, a2⟩ := h2.rows p hp
    refine ⟨a1.same (hk p.h a1.lt (fun cur hb => ?_)), a2⟩
    obtain ⟨cur', hb', _⟩ := a1
    exact hb.ne hb' (by decide) rfl
end


/-- a group that was appended: how many images, what they were made of, where they lie -/
structure G9 where
  n : Nat
  z : Int
  al : Option Addr
  cl : Nat
/-- the law's disk and what was appended to it -/
structure W9 where
  D : Dk.DS
  U : Nat
  gs : List (Nat × Int)
/-- so many images are made of z -/
def n9 (z : Int) : Nat := 1 + (pk z 5).toNat
theorem n9_in (z : Int) : 1 ≤ n9 z ∧ n9 z ≤ 5 := by
  have := pk_in z 5 (by decide)
  unfold n9
  omega
open Classical in
/-- one more, if there is room -/
noncomputable def step9 (e t : Nat) (s : W9) (z : Int) : W9 :=
  if s.U + (n9 z + 1) ≤ 16 then ⟨grow s.D 16 ((t + s.U) % 16) (Rc.putL e (s.gs.length + 1) (im9 z (n9 z))) (n9 z + 1), s.U + (n9 z + 1), s.gs ++ [(n9 z, z)]⟩ else s
/-- behind the first k numbers -/
noncomputable def st9 (e t : Nat) (zs : List Int) (k : Nat) : W9 := (zs.take k).foldl (step9 e t) ⟨Dk.DS.new 64 (Dk.nought (64 * 4096)), 0, []⟩
theorem st9_succ (e t : Nat) (zs : List Int) (k : Nat) (h : k < zs.length) : st9 e t zs (k + 1) = step9 e t (st9 e t zs k) zs[k] := by
  unfold st9
  rw [List.take_succ_eq_append_getElem h, List.foldl_append]
  rfl
/-- what holds of each -/
def Ok9 (s : W9) (k : Nat) : Prop := J.Calm s.D ∧ s.D.nb = 64 ∧ s.D.uf.length ≤ 6 * k ∧ s.D.n ≤ 6 * k ∧ s.U ≤ 16 ∧ s.gs.length ≤ k ∧ ∀ q ∈ s.gs, 1 ≤ q.1 ∧ q.1 ≤ 5
theorem ok9_step {s : W9} {k : Nat} (h : Ok9 s k) (e t : Nat) (z : Int) : Ok9 (step9 e t s z) (k + 1) := by
  obtain ⟨h1, h2, h3, h4, h5, h6, h7⟩ := h
  have hn := n9_in z
  unfold step9
  split
  · rename_i hr
    refine ⟨h1, h2, ?_, ?_, hr, by simp; omega, fun q hq => ?_⟩
    · show (s.D.uf ++ J.wrs 16 _ _ (n9 z + 1)).length ≤ _
      rw [List.length_append, J.wrs_length]
      omega
    · show s.D.n + (n9 z + 1) ≤ _
      omega
    · rcases List.mem_append.1 hq with hq | hq
      · exact h7 q hq
      · obtain rfl : q = (n9 z, z) := by simpa using hq
        exact hn
  · exact ⟨h1, h2, by omega, by omega, h5, by omega, h7⟩
theorem ok9 (e t : Nat) (zs : List Int) : ∀ k, k ≤ zs.length → Ok9 (st9 e t zs k) k
  | 0, _ => ⟨J.calm_new _ _, rfl, Nat.le_refl _, Nat.le_refl _, Nat.zero_le _, Nat.le_refl _, fun q hq => (by cases hq)⟩
  | k + 1, h => by rw [st9_succ e t zs k (by omega)]; exact ok9_step (ok9 e t zs k (by omega)) e t _
/-- the groups' sizes -/
def sz9 (gs : List (Nat × Int)) : List Int := gs.map fun q => ((q.1 + 1 : Nat) : Int)
/-- the lists of images as cells -/
def alC (qs : List G9) : List Value := qs.map fun q => .slice q.al q.n q.cl
/-- all of it in memory -/
structure Sw (w : World) (g dg e t : Nat) (s : W9) (v : Value) (qs : List G9) (u : World) : Prop where
  ex : ∃ F, JD u g dg ⟨2, (e : Int), ((s.gs.length + 1 : Nat) : Int), 0, 16, (t : Int), (s.U : Int), 0, false⟩ (sz9 s.gs) s.D F ∧ (∀ q ∈ qs, ImF (fun k => F k ∨ k < w.heap.size) u q.al q.n q.cl (im9 q.z q.n)) ∧ (∀ k, v.ownBlock = some k → ¬ F k) ∧ (∀ k, F k → w.heap.size ≤ k)
  row : u.ownsRow w.heap.size 50 1 v qs.length (alC qs)
  same : qs.map (fun q => (q.n, q.z)) = s.gs
  bel : Below w.heap.size w u

theorem img_len9 (f : Nat → List UInt8) (n : Nat) (hf : ∀ i, (f i).length = 4096) : ∀ i ∈ (List.range n).map fun (i : Nat) => ((30 + (i : Int) : Int), f i), i.2.length = 4096 := by
  intro i hi
  obtain ⟨j, _, e⟩ := List.mem_map.1 hi
  rw [← e]
  exact hf j
theorem madeL_len (s : Int) (n : Nat) : (Rc.madeL s n).length = n := Rc.madeK_length s n n
/-- the images are right ones -/
theorem im9_ok (e s : Int) (z : Int) (n : Nat) (h1 : 1 ≤ n) (h2 : n ≤ 32) (hs : Rc.okStamp e s = true) : Rc.okGroup e s (im9 z n) := by
  have hf : (im9 z n).map (·.1) = (List.range n).map fun (i : Nat) => 30 + (i : Int) := by
    refine List.ext_getElem (by simp [im9]) fun i _ _ => ?_
    simp [im9]
  refine ⟨⟨hs, ?_, ?_⟩, fun i hi => ?_⟩
  · rw [hf]
    simpa using ⟨h1, h2⟩
  · rw [hf]
    intro j hj _
    simp only [List.length_map, List.length_range] at hj
    rw [List.getElem_map, List.getElem_range]
    refine ⟨by omega, fun hm => ?_⟩
    obtain ⟨i, hi, hie⟩ := List.getElem_of_mem hm
    have hi2 : i < j := by simp at hi; omega
    simp at hie
    omega
  · exact img_len9 (fun i => Rc.madeL (IntKind.i64.wrap (z + (i : Int))) 4096) n (fun i => madeL_len (IntKind.i64.wrap (z + (i : Int))) 4096) i hi

section
variable {w u u' : World} {g dg e t : Nat} {s : W9} {v : Value} {qs : List G9}
/-- beside it images that were made -/
structure SwI (w : World) (g dg e t : Nat) (s : W9) (v : Value) (qs : List G9) (q : G9) (u : World) : Prop where
  ex : ∃ F, (JD u g dg ⟨2, (e : Int), ((s.gs.length + 1 : Nat) : Int), 0, 16, (t : Int), (s.U : Int), 0, false⟩ (sz9 s.gs) s.D F ∧ (∀ q ∈ qs, ImF (fun k => F k ∨ k < w.heap.size) u q.al q.n q.cl (im9 q.z q.n)) ∧ (∀ k, v.ownBlock = some k → ¬ F k) ∧ (∀ k, F k → w.heap.size ≤ k)) ∧ ImF (fun k => F k ∨ k < w.heap.size) u q.al q.n q.cl (im9 q.z q.n)
  row : u.ownsRow w.heap.size 50 1 v qs.length (alC qs)
  same : qs.map (fun q => (q.n, q.z)) = s.gs
  bel : Below w.heap.size w u
theorem Sw.below (h : Sw w g dg e t s v qs u) (b : Below u.heap.size u u') : Sw w g dg e t s v qs u' := by
  obtain ⟨⟨F, j, im, hv, hF⟩, r, sm, bl⟩ := h
  exact ⟨⟨F, j.below j.flt b b.size, fun q hq => (im q hq).below b, hv, hF⟩, Rc.owns_below r b, sm, bl.trans (b.mono bl.size)⟩
theorem Sw.img {q : G9} (h : Sw w g dg e t s v qs u) (hI : ∀ F : Nat → Prop, (∀ k, F k → k < u.heap.size) → ImF F u' q.al q.n q.cl (im9 q.z q.n)) (b : Below u.heap.size u u') : SwI w g dg e t s v qs q u' := by
  obtain ⟨⟨F, j, im, hv, hF⟩, r, sm, bl⟩ := h
  exact ⟨⟨F, ⟨j.below j.flt b b.size, fun q hq => (im q hq).below b, hv, hF⟩, hI _ (fun k hk => hk.elim (j.flt k) (fun h => Nat.lt_of_lt_of_le h bl.size))⟩, Rc.owns_below r b, sm, bl.trans (b.mono bl.size)⟩
theorem SwI.sw {q : G9} (h : SwI w g dg e t s v qs q u) : Sw w g dg e t s v qs u := by
  obtain ⟨⟨F, x, _⟩, r, sm, bl⟩ := h
  exact ⟨⟨F, x⟩, r, sm, bl⟩
theorem images9_imf (w : World) (n : Nat) (z : Int) (hn : n ≤ 40) :
    Calls Try.prog 20 #[.int .i64 (n : Int), .int .i64 z] w fun r w' => ∃ a' c', r = .returned (.slice a' n c') ∧ (∀ F : Nat → Prop, (∀ i, F i → i < w.heap.size) → ImF F w' a' n c' (im9 z n)) ∧ Below w.heap.size w w' := by
  refine (images9_at w n z hn).mono ?_
  rintro r w' ⟨a', c', qs, rfl, ho, hj, hq, hb⟩
  have hlen : qs.length = n := by
    have := congrArg List.length hq
    simpa [im9_length] using this
  refine ⟨a', c', rfl, fun F hF => ⟨qs, ?_, ⟨fun p hp => ?_, hj.apart⟩, hlen, hq, fun k hk hf => ?_, fun q hq' hf => ?_⟩, hb⟩
  · refine ⟨ho.1, ?_⟩
    rcases ho.2 with h1 | ⟨g', cap, cur, e, _, r⟩
    · exact .inl h1
    · exact .inr ⟨g', cap, cur, e, Nat.zero_le _, r⟩
  · obtain ⟨a1, _, a3⟩ := hj.rows p hp
    exact ⟨a1, Nat.zero_le _, a3⟩
  · have := (ho.lt k hk).1
    have := hF k hf
    omega
  · have := (hj.rows q hq').2.1
    have := hF q.h hf
    omega
end
end Go.Proofs.Ytkhejjddmbegaaa.S

/-
  Groups behind one another in a ring, of which a crash may have left anything: what is told is a beginning of them. No walk here.
-/
namespace Go.Proofs.Ytkhejjddmbegaaa.S
open Go.RowKit

/-- groups, one behind the other, as blocks -/
def blks (E : Nat) : Nat → List (List (Int × List UInt8)) → List (List UInt8)
  | _, [] => []
  | s, is :: r => Rc.putL E s is ++ blks E (s + 1) r
/-- all of them are right -/
def okAll (E : Nat) : Nat → List (List (Int × List UInt8)) → Prop
  | _, [] => True
  | s, is :: r => Rc.okGroup E s is ∧ okAll E (s + 1) r
/-- the block at so many places behind the tail -/
def rg (D : Dk.DS) (t i : Nat) : List UInt8 := D.stand (2 + (t + i) % 16)
/-- a stamp of this epoch is not borne -/
def noMark (E : Nat) (xs : List UInt8) : Prop := ∀ s, s ≤ 549755813888 → xs.take 8 ≠ Rc.mark E s
/-- from b on each sector is that of the blocks L, or bears no stamp of the epoch -/
def Mixd (D : Dk.DS) (t E b : Nat) (L : List (List UInt8)) : Prop :=
  ∀ i, b ≤ i → i < 16 → ∀ x : Fin 8, (∃ h : i - b < L.length, Rc.sec (rg D t i) x.val = Rc.sec L[i - b] x.val) ∨ noMark E (Rc.sec (rg D t i) x.val)

theorem ringB_get (D : Dk.DS) (t b k i : Nat) (h : i < (ringB D t b k).length) : (ringB D t b k)[i] = rg D t (b + i) := by simp [ringB, rg]
theorem ring0 (D : Dk.DS) (t b k : Nat) : (ringB D t b (k + 1))[0]?.getD [] = rg D t b := ringB_head D t b k

section
variable {D : Dk.DS} {t E b s : Nat}
/-- all sectors of a group's blocks bear its stamp -/
theorem gok_marks (h : GOk D t E b s) (i : Nat) (hi : i < cntAt D t b + 1) (x : Fin 8) : (Rc.sec (rg D t (b + i)) x.val).take 8 = Rc.mark E s := by
  obtain ⟨⟨h1, h2, h3⟩, _, hg⟩ := h
  have h4 := Rc.grp_marks hg i (by rw [ringB_length]; exact hi) x
  rw [ringB_get, ring0] at h4
  unfold rg at h4 ⊢
  rw [h2, h3] at h4
  exact h4
theorem gok_len (h : GOk D t E b s) (i : Nat) (hi : i < cntAt D t b + 1) : (rg D t (b + i)).length = 4096 := by
  have h4 := Rc.grp_len h.2.2 i (by rw [ringB_length]; exact hi)
  rw [ringB_get] at h4
  exact h4
theorem gok_s (h : GOk D t E b s) : s ≤ 549755813888 ∧ E ≤ 8388608 ∧ 1 ≤ s ∧ 1 ≤ E := by
  have h1 := (Rc.okStamp_iff _ _).1 (Rc.grp_ok h.2.2)
  rw [ring0] at h1
  obtain ⟨⟨_, h2, h3⟩, _⟩ := h
  unfold rg at h1
  rw [h2, h3] at h1
  omega
/-- a whole group that lies there is one -/
theorem gok_of (is : List (Int × List UInt8)) (hok : Rc.okGroup E s is) (hb : b + (is.length + 1) ≤ 16) (hr : ∀ i (h : i < (Rc.putL E s is).length), rg D t (b + i) = (Rc.putL E s is)[i]) :
    GOk D t E b s ∧ cntAt D t b = is.length ∧ ringB D t b (is.length + 1) = Rc.putL E s is := by
  have h0 : rg D t b = Rc.headB E s (Rc.entL (Rc.mark E s) is) := hr 0 (by simp [Rc.putL])
  obtain ⟨q1, q2, q3⟩ := Rc.put_said hok
  have hc : cntAt D t b = is.length := by
    unfold cntAt
    show (Rc.saidEs (rg D t b)).length = _
    rw [h0, q3, Rc.entL_length]
  have hl : (Rc.putL E s is).length = is.length + 1 := by simp [Rc.putL]
  have hR : ringB D t b (is.length + 1) = Rc.putL E s is := by
    refine List.ext_getElem (by rw [ringB_length, hl]) (fun i h1 h2 => ?_)
    rw [ringB_get, hr i h2]
  refine ⟨⟨⟨?_, ?_, ?_⟩, by rw [hc]; exact hb, by rw [hc, hR]; exact Rc.put_grp hok⟩, hc, hR⟩
  · show Rc.isHead (rg D t b); rw [h0]; exact Rc.put_head hok
  · show Rc.saidE (rg D t b) = _; rw [h0]; exact q1
  · show Rc.saidS (rg D t b) = _; rw [h0]; exact q2
theorem gimgs_of (is : List (Int × List UInt8)) (hok : Rc.okGroup E s is) (hc : cntAt D t b = is.length) (hR : ringB D t b (is.length + 1) = Rc.putL E s is) : gimgs D t b = is := by
  have h0 : rg D t b = Rc.headB E s (Rc.entL (Rc.mark E s) is) := by
    have := ring0 D t b is.length
    rw [hR] at this
    exact this.symm
  unfold gimgs
  show Rc.imgsTo _ (Rc.saidEs (rg D t b)) _ = _
  rw [hc, hR, h0, (Rc.put_said hok).2.2]
  exact Rc.put_imgs hok
end

theorem blks_cons (E s : Nat) (is : List (Int × List UInt8)) (r : List (List (Int × List UInt8))) : blks E s (is :: r) = Rc.putL E s is ++ blks E (s + 1) r := rfl
theorem putL_length' (E s : Nat) (is : List (Int × List UInt8)) : (Rc.putL E s is).length = is.length + 1 := by simp [Rc.putL]

/-- the next group: if one is told, it is the next of those that were written -/
theorem next_of {D : Dk.DS} {t E b s : Nat} {iss : List (List (Int × List UInt8))} (hok : okAll E s iss) (hm : Mixd D t E b (blks E s iss)) (h : GOk D t E b s) :
    ∃ is r, iss = is :: r ∧ cntAt D t b = is.length ∧ gimgs D t b = is := by
  have hs := gok_s h
  have hfit := h.2.1
  have all : ∀ i, i < cntAt D t b + 1 → ∀ x : Fin 8, ∃ h : i < (blks E s iss).length, Rc.sec (rg D t (b + i)) x.val = Rc.sec (blks E s iss)[i] x.val := fun i hi x => by
    rcases hm (b + i) (by omega) (by omega) x with ⟨h1, h2⟩ | h1
    · have e : b + i - b = i := by omega
      refine ⟨by omega, ?_⟩
      simpa only [e] using h2
    · exact absurd (gok_marks h i hi x) (h1 s hs.1)
  cases iss with
  | nil =>
    obtain ⟨h1, _⟩ := all 0 (by omega) 0
    exact absurd h1 (by simp [blks])
  | cons is r =>
    obtain ⟨ok1, ok2⟩ := hok
    have hl := putL_length' E s is
    have blk : ∀ i, i < cntAt D t b + 1 → ∀ h' : i < (Rc.putL E s is).length, rg D t (b + i) = (Rc.putL E s is)[i] := fun i hi h' => by
      rw [← Rc.cat_sec _ (gok_len h i hi), ← Rc.cat_sec _ (Rc.grp_len (Rc.put_grp ok1) i h')]
      congr 1
      funext x
      obtain ⟨_, h2⟩ := all i hi x
      rw [h2]
      simp only [blks_cons]
      rw [List.getElem_append_left h']
    have h0 : rg D t b = Rc.headB E s (Rc.entL (Rc.mark E s) is) := blk 0 (by omega) (by omega)
    have hc : cntAt D t b = is.length := by
      unfold cntAt
      show (Rc.saidEs (rg D t b)).length = _
      rw [h0, (Rc.put_said ok1).2.2, Rc.entL_length]
    have hR : ringB D t b (is.length + 1) = Rc.putL E s is := by
      refine List.ext_getElem (by rw [ringB_length, hl]) (fun i h1 h2 => ?_)
      rw [ringB_get, blk i (by omega) h2]
    exact ⟨is, r, rfl, hc, gimgs_of is ok1 hc hR⟩

theorem Mixd.tail {D : Dk.DS} {t E b s : Nat} {is : List (Int × List UInt8)} {r : List (List (Int × List UInt8))} (hm : Mixd D t E b (blks E s (is :: r))) : Mixd D t E (b + (is.length + 1)) (blks E (s + 1) r) := fun i hi h16 x => by
  have hl := putL_length' E s is
  rcases hm i (by omega) h16 x with ⟨h1, h2⟩ | h1
  · left
    have e : i - b - (is.length + 1) = i - (b + (is.length + 1)) := by omega
    have hlen : (blks E s (is :: r)).length = is.length + 1 + (blks E (s + 1) r).length := by rw [blks_cons, List.length_append, hl]
    refine ⟨by omega, ?_⟩
    rw [h2]
    simp only [blks_cons]
    rw [List.getElem_append_right (by omega)]
    simp only [hl, e]
  · exact .inr h1

/-- what is told is a beginning of what was written -/
theorem run_mixd {D : Dk.DS} {t E : Nat} : ∀ {xs : List Gx} {iss : List (List (Int × List UInt8))} {b s : Nat}, okAll E s iss → Mixd D t E b (blks E s iss) → Run D t E b s xs → xs.length ≤ iss.length ∧ xs.map (fun x => gimgs D t x.b) = iss.take xs.length
  | [], iss, b, s, _, _, _ => ⟨Nat.zero_le _, rfl⟩
  | x :: r, iss, b, s, hok, hm, hr => by
    obtain ⟨⟨hb, hs, hg, hx⟩, hr'⟩ := hr
    obtain ⟨is, r', rfl, hc, hi⟩ := next_of hok hm hg
    rw [hc] at hr'
    obtain ⟨q1, q2⟩ := run_mixd hok.2 hm.tail hr'
    refine ⟨by simp; omega, ?_⟩
    simp only [List.map_cons, List.length_cons, List.take_succ_cons, q2, hb, hi]
/-- of a whole ring all is told -/
theorem run_whole {D : Dk.DS} {t E : Nat} : ∀ {xs : List Gx} {iss : List (List (Int × List UInt8))} {b s : Nat}, okAll E s iss → (∀ i (h : i < (blks E s iss).length), rg D t (b + i) = (blks E s iss)[i]) → b + (blks E s iss).length ≤ 16 → Run D t E b s xs → iss.length ≤ xs.length
  | xs, [], b, s, _, _, _, _ => Nat.zero_le _
  | xs, is :: r, b, s, hok, hw, hf, hr => by
    have hl := putL_length' E s is
    have hlen : (blks E s (is :: r)).length = is.length + 1 + (blks E (s + 1) r).length := by rw [blks_cons, List.length_append, hl]
    obtain ⟨g1, g2, g3⟩ := gok_of (D := D) (t := t) (b := b) is hok.1 (by omega) (fun i h => by
      rw [hw i (by omega)]
      simp only [blks_cons]
      rw [List.getElem_append_left h])
    cases xs with
    | nil => exact absurd g1 hr
    | cons x xs =>
      obtain ⟨_, hr'⟩ := hr
      rw [g2] at hr'
      have := run_whole hok.2 (b := b + (is.length + 1)) (fun i h => by
        rw [show b + (is.length + 1) + i = b + (is.length + 1 + i) by omega, hw (is.length + 1 + i) (by omega)]
        simp only [blks_cons]
        rw [List.getElem_append_right (by omega)]
        simp only [hl, Nat.add_sub_cancel_left]) (by omega) hr'
      simp
      exact this
theorem Run.seq {D : Dk.DS} {t E : Nat} : ∀ {xs : List Gx} {b s : Nat}, Run D t E b s xs → ∀ j (h : j < xs.length), xs[j].s = s + j
  | x :: r, b, s, ⟨⟨_, hs, _⟩, hr⟩, j, h => by
    cases j with
    | zero => simpa using hs
    | succ j =>
      have := hr.seq j (by simpa using h)
      simp only [List.getElem_cons_succ, this]
      omega
theorem Run.cnt {D : Dk.DS} {t E : Nat} : ∀ {xs : List Gx} {b s : Nat}, Run D t E b s xs → ∀ x ∈ xs, x.m = (gimgs D t x.b).length ∧ 1 ≤ x.m ∧ x.m ≤ 32
  | x :: r, b, s, ⟨⟨hb, hs, hg, hx⟩, hr⟩, y, hy => by
    rcases List.mem_cons.1 hy with rfl | hy
    · have hm : 1 ≤ cntAt D t b ∧ cntAt D t b ≤ 32 := by
        have h := hg.1.1.2.1.2.1
        simpa [cntAt] using h
      rw [hb, hx]
      exact ⟨by simp [gimgs, Rc.imgsTo], hm⟩
    · exact hr.cnt y hy

/-- how long they are -/
theorem blks_length (E : Nat) : ∀ (iss : List (List (Int × List UInt8))) (s : Nat), (blks E s iss).length = (iss.map fun is => is.length + 1).sum
  | [], _ => rfl
  | is :: r, s => by rw [blks_cons, List.length_append, blks_length E r, putL_length']; simp
theorem blks_snoc (E : Nat) : ∀ (iss : List (List (Int × List UInt8))) (s : Nat) (is : List (Int × List UInt8)), blks E s (iss ++ [is]) = blks E s iss ++ Rc.putL E (s + iss.length) is
  | [], s, is => by simp [blks]
  | i :: r, s, is => by
    rw [List.cons_append, blks_cons, blks_cons, blks_snoc E r (s + 1) is, List.append_assoc, List.length_cons]
    congr 3
    omega
theorem okAll_snoc {E : Nat} : ∀ {iss : List (List (Int × List UInt8))} {s : Nat} {is : List (Int × List UInt8)}, okAll E s iss → Rc.okGroup E (s + iss.length : Nat) is → okAll E s (iss ++ [is])
  | [], s, is, _, h => ⟨by simpa using h, trivial⟩
  | i :: r, s, is, ⟨h1, h2⟩, h => ⟨h1, okAll_snoc h2 (by rw [show s + 1 + r.length = s + (i :: r).length by simp; omega]; exact h)⟩
theorem okAll_marks {E : Nat} : ∀ {iss : List (List (Int × List UInt8))} {s : Nat}, okAll E s iss → ∀ i (h : i < (blks E s iss).length), (blks E s iss)[i].length = 4096 ∧ ∃ k, k < iss.length ∧ ∀ x : Fin 8, (Rc.sec (blks E s iss)[i] x.val).take 8 = Rc.mark E (s + k)
  | [], s, _, i, h => absurd h (by simp [blks])
  | is :: r, s, ⟨h1, h2⟩, i, h => by
    have hl := putL_length' E s is
    by_cases hi : i < (Rc.putL E s is).length
    · have e : (blks E s (is :: r))[i] = (Rc.putL E s is)[i] := by simp only [blks_cons]; rw [List.getElem_append_left hi]
      rw [e]
      exact ⟨Rc.grp_len (Rc.put_grp h1) i hi, 0, by simp, fun x => by rw [Nat.add_zero]; exact Rc.put_marks h1 i hi x⟩
    · have hlen : (blks E s (is :: r)).length = is.length + 1 + (blks E (s + 1) r).length := by rw [blks_cons, List.length_append, hl]
      have hi2 : i - (Rc.putL E s is).length < (blks E (s + 1) r).length := by omega
      have e : (blks E s (is :: r))[i] = (blks E (s + 1) r)[i - (Rc.putL E s is).length] := by simp only [blks_cons]; rw [List.getElem_append_right (by omega)]
      rw [e]
      obtain ⟨q1, k, q2, q3⟩ := okAll_marks h2 (i - (Rc.putL E s is).length) hi2
      exact ⟨q1, k + 1, by simp; omega, fun x => by rw [q3 x, show s + 1 + k = s + (k + 1) by omega]⟩

/-- the law's groups -/
def iss9 (gs : List (Nat × Int)) : List (List (Int × List UInt8)) := gs.map fun q => im9 q.2 q.1
/-- the law's disk: all that was written, in order -/
theorem st9_uf (e t : Nat) (ht : t < 16) (zs : List Int) : ∀ k, k ≤ zs.length → (st9 e t zs k).D.dur = Dk.nought (64 * 4096) ∧ (st9 e t zs k).U = (blks e 1 (iss9 (st9 e t zs k).gs)).length ∧ (st9 e t zs k).D.uf = J.wrs 16 t (blks e 1 (iss9 (st9 e t zs k).gs)) (st9 e t zs k).U
  | 0, _ => ⟨rfl, rfl, rfl⟩
  | k + 1, h => by
    obtain ⟨h1, h2, h3⟩ := st9_uf e t ht zs k (by omega)
    rw [st9_succ e t zs k (by omega)]
    generalize (zs[k]'(by omega)) = z
    generalize st9 e t zs k = s at h1 h2 h3 ⊢
    unfold step9
    split
    · rename_i hr
      have ei : iss9 (s.gs ++ [(n9 z, z)]) = iss9 s.gs ++ [im9 z (n9 z)] := by simp [iss9]
      have el : (iss9 s.gs).length = s.gs.length := by simp [iss9]
      have eb : blks e 1 (iss9 (s.gs ++ [(n9 z, z)])) = blks e 1 (iss9 s.gs) ++ Rc.putL e (s.gs.length + 1) (im9 z (n9 z)) := by rw [ei, blks_snoc, el, Nat.add_comm 1]
      have hp : (Rc.putL e (s.gs.length + 1) (im9 z (n9 z))).length = n9 z + 1 := by rw [putL_length', im9_length]
      refine ⟨h1, ?_, ?_⟩
      · show s.U + (n9 z + 1) = _
        rw [eb, List.length_append, hp, h2]
      · show s.D.uf ++ J.wrs 16 ((t + s.U) % 16) _ (n9 z + 1) = J.wrs 16 t _ (s.U + (n9 z + 1))
        rw [h3, eb]
        unfold J.wrs
        have hrr : List.range (s.U + (n9 z + 1)) = List.range s.U ++ (List.range (n9 z + 1)).map (s.U + ·) := List.range_add
        rw [hrr, List.map_append, List.map_map]
        congr 1
        · refine List.map_congr_left fun i hi => ?_
          have hi' : i < s.U := by simpa using hi
          rw [List.getD_eq_getElem?_getD, List.getD_eq_getElem?_getD, List.getElem?_append_left (by omega)]
        · refine List.map_congr_left fun i hi => ?_
          show _ = (2 + (t + (s.U + i)) % 16, (blks e 1 (iss9 s.gs) ++ Rc.putL e (s.gs.length + 1) (im9 z (n9 z))).getD (s.U + i) [])
          rw [List.getD_eq_getElem?_getD, List.getD_eq_getElem?_getD, List.getElem?_append_right (by omega), h2, Nat.add_sub_cancel_left]
          congr 2
          omega
    · exact ⟨h1, h2, h3⟩
theorem st9_ok (e t : Nat) (he : 1 ≤ e ∧ e ≤ 9) (zs : List Int) : ∀ k, k ≤ zs.length → k ≤ 12 → okAll e 1 (iss9 (st9 e t zs k).gs)
  | 0, _, _ => trivial
  | k + 1, h, h12 => by
    have ih := st9_ok e t he zs k (by omega) (by omega)
    have hk := ok9 e t zs k (by omega)
    rw [st9_succ e t zs k (by omega)]
    generalize (zs[k]'(by omega)) = z
    generalize st9 e t zs k = s at ih hk ⊢
    unfold step9
    split
    · have ei : iss9 (s.gs ++ [(n9 z, z)]) = iss9 s.gs ++ [im9 z (n9 z)] := by simp [iss9]
      have el : (iss9 s.gs).length = s.gs.length := by simp [iss9]
      have hn := n9_in z
      have hg := hk.2.2.2.2.2.1
      show okAll e 1 (iss9 (s.gs ++ [(n9 z, z)]))
      rw [ei]
      refine okAll_snoc ih (im9_ok _ _ z (n9 z) (by omega) (by omega) ((Rc.okStamp_iff _ _).2 (by omega)))
    · exact ih
end Go.Proofs.Ytkhejjddmbegaaa.S

/-
  What the blocks of the law's ring are, behind writes, a flush, a crash. No walk here.
-/
namespace Go.Proofs.Ytkhejjddmbegaaa.S
open Go.RowKit

theorem sec_eq (xs : List UInt8) (k : Nat) : Dk.sec xs k = Rc.sec xs k := rfl
/-- what stands in the ring behind such writes -/
theorem rg_in {D : Dk.DS} {t : Nat} {L : List (List UInt8)} (hu : D.uf = J.wrs 16 t L L.length) (hL : L.length ≤ 16) (i : Nat) (h : i < L.length) : rg D t i = L[i] := by
  have h1 := J.grow_in (Dk.DS.new D.nb D.dur) t L i L.length h hL
  have h2 : (J.grow (Dk.DS.new D.nb D.dur) 16 t L L.length).stand (2 + (t + i) % 16) = D.stand (2 + (t + i) % 16) := by
    unfold Dk.DS.stand
    rw [hu]
    rfl
  unfold rg
  rw [← h2, h1]
  simp [h]
theorem rg_out {D : Dk.DS} {t : Nat} {L : List (List UInt8)} (hu : D.uf = J.wrs 16 t L L.length) (i : Nat) (h : L.length ≤ i) (h16 : i < 16) : rg D t i = Dk.blk D.dur (2 + (t + i) % 16) := by
  have h1 := J.grow_out (Dk.DS.new D.nb D.dur) 16 t L (2 + (t + i) % 16) L.length (fun j hj => by omega)
  have h2 : (J.grow (Dk.DS.new D.nb D.dur) 16 t L L.length).stand (2 + (t + i) % 16) = D.stand (2 + (t + i) % 16) := by
    unfold Dk.DS.stand
    rw [hu]
    rfl
  unfold rg
  rw [← h2, h1]
  rfl
theorem blk_nought (n p : Nat) (h : p * 4096 + 4096 ≤ n) : Dk.blk (Dk.nought n) p = List.replicate 4096 0 := by
  unfold Dk.blk Dk.nought
  rw [List.drop_replicate, List.take_replicate]
  congr 1
  omega
theorem sec_zero (x : Fin 8) : (Rc.sec (List.replicate 4096 0) x.val).take 8 = List.replicate 8 0 := by
  have := x.isLt
  unfold Rc.sec
  rw [List.drop_replicate, List.take_replicate, List.take_replicate]
  congr 1
  omega
theorem noMark_zero {E : Nat} (h1 : 1 ≤ E) (h2 : E ≤ 8388608) (x : Fin 8) : noMark E (Rc.sec (List.replicate 4096 0) x.val) := fun s hs h => by
  rw [sec_zero] at h
  exact Rc.mark_ne h1 h2 hs h.symm
/-- blocks that no epoch E has written -/
def NoE (D : Dk.DS) (t E : Nat) : Prop := ∀ i, i < 16 → ∀ x : Fin 8, noMark E (Rc.sec (Dk.blk D.dur (2 + (t + i) % 16)) x.val)
theorem noE_new {D : Dk.DS} {t E : Nat} (hd : D.dur = Dk.nought (64 * 4096)) (h1 : 1 ≤ E) (h2 : E ≤ 8388608) : NoE D t E := fun i hi x => by
  rw [hd, blk_nought _ _ (by omega)]
  exact noMark_zero h1 h2 x
/-- nothing crashed: all is there, and no more -/
theorem mixd_stand {D : Dk.DS} {t E : Nat} {L : List (List UInt8)} (hu : D.uf = J.wrs 16 t L L.length) (hL : L.length ≤ 16) (hn : NoE D t E) : Mixd D t E 0 L := fun i _ h16 x => by
  by_cases h : i < L.length
  · left
    refine ⟨by omega, ?_⟩
    rw [rg_in hu hL i h]
    rfl
  · right
    rw [rg_out hu i (by omega) h16]
    exact hn i h16 x

/-- a sector behind a torn write -/
theorem sec_carry (d : List UInt8) (b : Nat) (data : List UInt8) (m : Nat) (hb : b * 4096 + 4096 ≤ d.length) (hd : data.length = 4096) (x : Fin 8) : Rc.sec (Dk.blk (Dk.carry d b data m) b) x.val = if Dk.bit m x.val then Rc.sec data x.val else Rc.sec (Dk.blk d b) x.val := by
  have hx := x.isLt
  apply List.ext_getElem?
  intro i
  have g : ∀ l : List UInt8, (Rc.sec l x.val)[i]? = if i < 512 then l[x.val * 512 + i]? else none := fun l => by
    unfold Rc.sec
    rw [List.getElem?_take]
    split
    · rw [List.getElem?_drop]
    · rfl
  rw [g]
  by_cases hi : i < 512
  · obtain ⟨y, hy⟩ : ∃ y, y = x.val * 512 + i := ⟨_, rfl⟩
    have hy1 : y < 4096 := by omega
    have hy2 : y / 512 = x.val := by omega
    rw [if_pos hi, ← hy]
    have h1 := Dk.blk_get (Dk.carry d b data m) b y
    rw [if_pos hy1, Dk.carry_get _ _ _ _ hb hd, Nat.add_sub_cancel_left, hy2] at h1
    rw [h1]
    by_cases hbit : Dk.bit m x.val = true
    · have hc : b * 4096 ≤ b * 4096 + y ∧ b * 4096 + y < b * 4096 + 4096 ∧ Dk.bit m x.val = true := ⟨Nat.le_add_right _ _, Nat.add_lt_add_left hy1 _, hbit⟩
      rw [if_pos hc, if_pos hbit, g, if_pos hi, ← hy]
    · have h2 := Dk.blk_get d b y
      rw [if_pos hy1] at h2
      rw [if_neg (fun h => hbit h.2.2), if_neg hbit, g, if_pos hi, ← hy, h2]
  · rw [if_neg hi]
    split
    · rw [g, if_neg hi]
    · rw [g, if_neg hi]
/-- behind a crash a sector is as it was, or as one of the writes has it -/
theorem crash_sec (D : Dk.DS) (ok : D.Ok) (keep : List Bool) (torn : Int) (m p : Nat) (hp : p < D.nb) (x : Fin 8) : ∀ k, k ≤ D.uf.length →
    Rc.sec (Dk.blk (Dk.crashTo keep torn m D.uf D.dur k) p) x.val = Rc.sec (Dk.blk D.dur p) x.val ∨ ∃ j, ∃ h : j < D.uf.length, (D.uf[j]).1 = p ∧ Rc.sec (Dk.blk (Dk.crashTo keep torn m D.uf D.dur k) p) x.val = Rc.sec (D.uf[j]).2 x.val
  | 0, _ => .inl rfl
  | k + 1, hk => by
    have ih := crash_sec D ok keep torn m p hp x k (by omega)
    have hl := Dk.crashTo_length D ok keep torn m k
    obtain ⟨h1, h2⟩ := ok.at k (by omega)
    have hroom : (D.uf[k]).1 * 4096 + 4096 ≤ (Dk.crashTo keep torn m D.uf D.dur k).length := by rw [hl]; exact ok.room h1
    rw [Dk.crashTo_succ keep torn m D.uf D.dur k (by omega)]
    have key : ∀ mm, (Rc.sec (Dk.blk (Dk.carry (Dk.crashTo keep torn m D.uf D.dur k) (D.uf[k]).1 (D.uf[k]).2 mm) p) x.val = Rc.sec (Dk.blk D.dur p) x.val) ∨ ∃ j, ∃ h : j < D.uf.length, (D.uf[j]).1 = p ∧ Rc.sec (Dk.blk (Dk.carry (Dk.crashTo keep torn m D.uf D.dur k) (D.uf[k]).1 (D.uf[k]).2 mm) p) x.val = Rc.sec (D.uf[j]).2 x.val := fun mm => by
      by_cases e : (D.uf[k]).1 = p
      · rw [← e, sec_carry _ _ _ _ hroom h2 x]
        split
        · exact .inr ⟨k, by omega, rfl, rfl⟩
        · rw [e]
          exact ih
      · rw [Dk.blk_carry_other _ _ _ _ _ hroom h2 (fun h => e h.symm)]
        exact ih
    split
    · exact key m
    · split
      · exact key 255
      · exact ih
theorem wrs_get (S f : Nat) (bs : List (List UInt8)) (k j : Nat) (h : j < (J.wrs S f bs k).length) : (J.wrs S f bs k)[j] = (2 + (f + j) % S, bs.getD j []) := by simp [J.wrs]
/-- behind a crash -/
theorem mixd_crash {D : Dk.DS} {t E : Nat} {L : List (List UInt8)} (ok : D.Ok) (hnb : D.nb = 64) (hu : D.uf = J.wrs 16 t L L.length) (hL : L.length ≤ 16) (hn : NoE D t E) (keep : List Bool) (torn : Int) (m : Nat) : Mixd (D.crash keep torn m) t E 0 L := fun i _ h16 x => by
  have e : rg (D.crash keep torn m) t i = Dk.blk (Dk.crashTo keep torn m D.uf D.dur D.uf.length) (2 + (t + i) % 16) := rfl
  rw [e]
  rcases crash_sec D ok keep torn m (2 + (t + i) % 16) (by omega) x D.uf.length (Nat.le_refl _) with h | ⟨j, hj, h1, h2⟩
  · right
    rw [h]
    exact hn i h16 x
  · have hjl : j < L.length := by rw [hu, J.wrs_length] at hj; exact hj
    have hg : D.uf[j] = (2 + (t + j) % 16, L.getD j []) := by
      have : D.uf[j]? = (J.wrs 16 t L L.length)[j]? := by rw [hu]
      rw [List.getElem?_eq_getElem hj, List.getElem?_eq_getElem (by rw [J.wrs_length]; exact hjl), wrs_get] at this
      exact Option.some.inj this
    rw [hg] at h1 h2
    have hij : i = j := by dsimp only at h1; omega
    subst hij
    left
    refine ⟨by omega, ?_⟩
    rw [h2]
    simp [hjl]
/-- a crash with nothing unflushed -/
theorem rg_calm {D : Dk.DS} (hu : D.uf = []) (keep : List Bool) (torn : Int) (m t i : Nat) : rg (D.crash keep torn m) t i = rg D t i := by
  unfold rg Dk.DS.stand Dk.DS.crash
  simp only [hu]
  rfl
theorem Mixd.congr {D D' : Dk.DS} {t E b : Nat} {L : List (List UInt8)} (h : Mixd D t E b L) (he : ∀ i, i < 16 → rg D' t i = rg D t i) : Mixd D' t E b L := fun i hb h16 x => by
  rw [he i h16]
  exact h i hb h16 x
end Go.Proofs.Ytkhejjddmbegaaa.S
