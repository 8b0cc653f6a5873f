/-
  SGroups, SWr2, DkInts, SWritten, SSame, STell, SArgs: put together.
-/
import Derived.Test.YtkhejjddmbegaaaG9
import Derived.Deep.AppendLies
import Derived.Maps.OwnIn
import Derived.Deep.RegionHeld3
import Derived.ProofKit
import Derived.OpenShut
import Derived.ChangeOld
import Derived.Below
import Derived.Deep.Slices
import Derived.Deep.Strs
import Derived.Deep.Grids
import Derived.SizedLaws
/-
  All groups of a disk.
-/
namespace Go.Proofs.Ytkhejjddmbegaaa.S
open Go.RowKit Go.Shelf
open Go.Proofs.Ytkhejjddmbegaaa.Dk (Box)
attribute [local go_sem] Oper.semAt_some

theorem info52 : (Try.prog.info? 52).map (fun i => (i.zero, i.size, i.bytes)) = some (some (.agg #[.int .i64 0, .int .i64 0, .slice none 0 0]), 3, 40) := by kernel_rfl
theorem tot_le : ∀ (xs : List Gx), (∀ y ∈ xs, y.m + 1 ≤ 16) → tot xs ≤ 16 * xs.length
  | [], _ => by simp [tot]
  | x :: r, h => by
    have h1 := tot_le r (fun y hy => h y (List.mem_cons_of_mem _ hy))
    have h2 := h x List.mem_cons_self
    have e : tot (x :: r) = (x.m + 1) + tot r := by simp [tot]
    rw [e, List.length_cons]
    omega
theorem Run.fits {D : Dk.DS} {t E : Nat} : ∀ {xs : List Gx} {b s : Nat}, Run D t E b s xs → b ≤ 16 → b + tot xs ≤ 16
  | [], _, _, _, hb => by simpa [tot] using hb
  | x :: r, b, s, ⟨⟨_, _, hG, hm⟩, h2⟩, _ => by
    have h1 := hG.2.1
    have h3 := Run.fits h2 (by omega)
    have e : tot (x :: r) = (x.m + 1) + tot r := by simp [tot]
    rw [e, hm]
    omega
theorem kp_below {bt bb : Nat} {A B : World} (b : Below A.heap.size A B) (hbt : bt < A.heap.size) : Kp bt bb A B :=
  ⟨b.size, fun k _ h _ _ => (b.block k (Array.getElem?_eq_some_iff.1 h).1).trans h, fun _ hk => .inl (hk.below b hbt)⟩

set_option maxRecDepth 100000 in
set_option maxHeartbeats 2000000 in
theorem groups_at {w : World} {dg : Nat} {D : Dk.DS} {F : Nat → Prop} (hd : Dk.IsDisk w dg D F) (hnb : D.nb = 64) (hgn : D.gone = false) (hlim : D.uf.length ≤ 1000000) (t E S0 : Nat) (ht : t < 16) (hE : 1 ≤ E ∧ E ≤ 8388608) (hS : 1 ≤ S0 ∧ S0 ≤ 549755813888) :
    Calls Try.prog 12 #[.pointer (some ⟨dg, 0, none⟩), .agg lay, .agg #[.int .i64 64, .int .i64 (E : Int), .int .i64 (S0 : Int), .int .i64 (t : Int)]] w fun r w' => ∃ xs a c, r = .returned (.tuple #[.slice a xs.length c, .int .i64 (((t + tot xs) % 16 : Nat) : Int), .int .i64 0]) ∧ Run D t E 0 S0 xs ∧ w'.ownsRow w.heap.size 52 3 (.slice a xs.length c) xs.length (gsC E xs) ∧ (∀ x ∈ xs, GA D t E x w') ∧ Below w.heap.size w w' := by
  obtain ⟨i0, hi0, hz0, hz1, hz2⟩ := info_parts info52
  refine (callsIn_wide (n := 4)).1 ?_
  have e0 : ∃ W5, W5 = (((((w.alloc (.cells #[.int .i64 64, .int .i64 2, .int .i64 16, .int .i64 18, .int .i64 19, .int .i64 4, .int .i64 23] 41)).alloc (.cells #[.int .i64 64, .int .i64 (E : Int), .int .i64 (S0 : Int), .int .i64 (t : Int)] 44)).alloc (.cells #[.slice none 0 0] 37)).alloc (.cells #[.int .i64 0] 3)).alloc (.cells #[.int .i64 0] 29)) := ⟨_, rfl⟩
  obtain ⟨W5, hW5⟩ := e0
  have z1 : (w.alloc (.cells #[.int .i64 64, .int .i64 2, .int .i64 16, .int .i64 18, .int .i64 19, .int .i64 4, .int .i64 23] 41)).heap.size = w.heap.size + 1 := by simp
  have z2 : ((w.alloc (.cells #[.int .i64 64, .int .i64 2, .int .i64 16, .int .i64 18, .int .i64 19, .int .i64 4, .int .i64 23] 41)).alloc (.cells #[.int .i64 64, .int .i64 (E : Int), .int .i64 (S0 : Int), .int .i64 (t : Int)] 44)).heap.size = w.heap.size + 2 := by simp
  have z3 : (((w.alloc (.cells #[.int .i64 64, .int .i64 2, .int .i64 16, .int .i64 18, .int .i64 19, .int .i64 4, .int .i64 23] 41)).alloc (.cells #[.int .i64 64, .int .i64 (E : Int), .int .i64 (S0 : Int), .int .i64 (t : Int)] 44)).alloc (.cells #[.slice none 0 0] 37)).heap.size = w.heap.size + 3 := by simp
  have z4 : ((((w.alloc (.cells #[.int .i64 64, .int .i64 2, .int .i64 16, .int .i64 18, .int .i64 19, .int .i64 4, .int .i64 23] 41)).alloc (.cells #[.int .i64 64, .int .i64 (E : Int), .int .i64 (S0 : Int), .int .i64 (t : Int)] 44)).alloc (.cells #[.slice none 0 0] 37)).alloc (.cells #[.int .i64 0] 3)).heap.size = w.heap.size + 4 := by simp
  have z5 : W5.heap.size = w.heap.size + 5 := by rw [hW5]; simp
  have bx0 : Box W5 w.heap.size #[.int .i64 64, .int .i64 2, .int .i64 16, .int .i64 18, .int .i64 19, .int .i64 4, .int .i64 23] 41 := by rw [hW5]; exact ((((Dk.Box.new w #[.int .i64 64, .int .i64 2, .int .i64 16, .int .i64 18, .int .i64 19, .int .i64 4, .int .i64 23] 41).alloc _).alloc _).alloc _).alloc _
  have bx1 : Box W5 (w.heap.size + 1) #[.int .i64 64, .int .i64 (E : Int), .int .i64 (S0 : Int), .int .i64 (t : Int)] 44 := by rw [hW5, ← z1]; exact (((Dk.Box.new (w.alloc (.cells #[.int .i64 64, .int .i64 2, .int .i64 16, .int .i64 18, .int .i64 19, .int .i64 4, .int .i64 23] 41)) #[.int .i64 64, .int .i64 (E : Int), .int .i64 (S0 : Int), .int .i64 (t : Int)] 44).alloc _).alloc _).alloc _
  have bx2 : Box W5 (w.heap.size + 2) #[.slice none 0 0] 37 := by rw [hW5, ← z2]; exact ((Dk.Box.new ((w.alloc (.cells #[.int .i64 64, .int .i64 2, .int .i64 16, .int .i64 18, .int .i64 19, .int .i64 4, .int .i64 23] 41)).alloc (.cells #[.int .i64 64, .int .i64 (E : Int), .int .i64 (S0 : Int), .int .i64 (t : Int)] 44)) #[.slice none 0 0] 37).alloc _).alloc _
  have bx3 : Box W5 (w.heap.size + 3) #[.int .i64 0] 3 := by rw [hW5, ← z3]; exact (Dk.Box.new (((w.alloc (.cells #[.int .i64 64, .int .i64 2, .int .i64 16, .int .i64 18, .int .i64 19, .int .i64 4, .int .i64 23] 41)).alloc (.cells #[.int .i64 64, .int .i64 (E : Int), .int .i64 (S0 : Int), .int .i64 (t : Int)] 44)).alloc (.cells #[.slice none 0 0] 37)) #[.int .i64 0] 3).alloc _
  have bx4 : Box W5 (w.heap.size + 4) #[.int .i64 0] 29 := by rw [hW5, ← z4]; exact Dk.Box.new ((((w.alloc (.cells #[.int .i64 64, .int .i64 2, .int .i64 16, .int .i64 18, .int .i64 19, .int .i64 4, .int .i64 23] 41)).alloc (.cells #[.int .i64 64, .int .i64 (E : Int), .int .i64 (S0 : Int), .int .i64 (t : Int)] 44)).alloc (.cells #[.slice none 0 0] 37)).alloc (.cells #[.int .i64 0] 3)) #[.int .i64 0] 29
  have B5 : Below w.heap.size w W5 := by rw [hW5]; exact (((((Below.refl w.heap.size w).alloc (Nat.le_refl _) _).alloc (by simp) _).alloc (by simp; omega) _).alloc (by simp; omega) _).alloc (by simp; omega) _
  have hA := ahead_ok (hd.below B5) hnb (E : Int) (S0 : Int) (t : Int) (by omega) (by omega) (by omega)
  unfold lay at hA ⊢
  refine callsIn_of_wp_marks Try.func12 rfl trivial ?_ rfl
  simp only [Try.ntmps12, List.size_toArray, List.length_cons, List.length_nil, Nat.reduceAdd, Nat.reduceSub, Array.replicate_succ, Array.replicate_zero, List.push_toArray, List.append_toArray, List.nil_append, List.cons_append]
  have HZ : Hid (W5.heap.size = w.heap.size + 5) := z5
  clear z1 z2 z3 z4 z5
  have HB5 : Hid (Below w.heap.size w W5 ∧ Box W5 (w.heap.size + 2) #[.slice none 0 0] 37 ∧ Box W5 (w.heap.size + 3) #[.int .i64 0] 3 ∧ Box W5 (w.heap.size + 4) #[.int .i64 0] 29) := ⟨B5, bx2, bx3, bx4⟩
  have HD : Hid (∀ u, Below W5.heap.size W5 u → Box u w.heap.size #[.int .i64 64, .int .i64 2, .int .i64 16, .int .i64 18, .int .i64 19, .int .i64 4, .int .i64 23] 41 ∧ Box u (w.heap.size + 1) #[.int .i64 64, .int .i64 (E : Int), .int .i64 (S0 : Int), .int .i64 (t : Int)] 44) := fun u bu => ⟨bx0.below bu, bx1.below bu⟩
  have f0 := bx0.cell 0
  have f1 := bx0.cell 1
  have f2 := bx0.cell 2
  have f3 := bx0.cell 3
  have f4 := bx0.cell 4
  have f5 := bx0.cell 5
  have f6 := bx0.cell 6
  have h0 := bx1.cell 0
  have h1 := bx1.cell 1
  have h2 := bx1.cell 2
  have h3 := bx1.cell 3
  simp only [List.getElem?_toArray, List.getElem?_cons_zero, List.getElem?_cons_succ] at f0 f1 f2 f3 f4 f5 f6 h0 h1 h2 h3
  clear B5 bx0 bx1 bx2 bx3 bx4
  have HW : Hid (∃ W, W = W5) := ⟨_, rfl⟩
  rw [hW5] at hA f0 f1 f2 f3 f4 f5 f6 h0 h1 h2 h3
  gi_wp2_with fail
  refine ⟨trivial, ?_⟩
  refine ((callsIn_wide (n := 3)).2 hA).mono ?_
  rintro r u1 ⟨rfl, b1⟩
  rw [← hW5] at b1
  clear hA f0 f1 f2 f3 f4 f5 f6 h0 h1 h2 h3
  obtain ⟨y0, y1⟩ := HD.out u1 b1
  have f0 := y0.cell 0
  have f1 := y0.cell 1
  have f2 := y0.cell 2
  have f3 := y0.cell 3
  have f4 := y0.cell 4
  have f5 := y0.cell 5
  have f6 := y0.cell 6
  have h0 := y1.cell 0
  have h1 := y1.cell 1
  have h2 := y1.cell 2
  have h3 := y1.cell 3
  simp only [List.getElem?_toArray, List.getElem?_cons_zero, List.getElem?_cons_succ] at f0 f1 f2 f3 f4 f5 f6 h0 h1 h2 h3
  obtain ⟨W8, hW8⟩ : ∃ W8, W8 = (((u1.alloc (.cells #[.pointer (some ⟨dg, 0, none⟩), .int .i64 64, .int .i64 2, .int .i64 16, .int .i64 18, .int .i64 19, .int .i64 4, .int .i64 23, .int .i64 64, .int .i64 (E : Int), .int .i64 (S0 : Int), .int .i64 (t : Int)] 79)).alloc (.cells #[.slice none 0 0] 37)).alloc (.cells #[.int .i64 0] 3)) := ⟨_, rfl⟩
  have s1 : (u1.alloc (.cells #[.pointer (some ⟨dg, 0, none⟩), .int .i64 64, .int .i64 2, .int .i64 16, .int .i64 18, .int .i64 19, .int .i64 4, .int .i64 23, .int .i64 64, .int .i64 (E : Int), .int .i64 (S0 : Int), .int .i64 (t : Int)] 79)).heap.size = u1.heap.size + 1 := by simp
  have s2 : ((u1.alloc (.cells #[.pointer (some ⟨dg, 0, none⟩), .int .i64 64, .int .i64 2, .int .i64 16, .int .i64 18, .int .i64 19, .int .i64 4, .int .i64 23, .int .i64 64, .int .i64 (E : Int), .int .i64 (S0 : Int), .int .i64 (t : Int)] 79)).alloc (.cells #[.slice none 0 0] 37)).heap.size = u1.heap.size + 2 := by simp
  have s3 : Hid (W8.heap.size = u1.heap.size + 3) := by
    have : W8.heap.size = u1.heap.size + 3 := by rw [hW8]; simp
    exact this
  have r0 : Box W8 u1.heap.size #[.pointer (some ⟨dg, 0, none⟩), .int .i64 64, .int .i64 2, .int .i64 16, .int .i64 18, .int .i64 19, .int .i64 4, .int .i64 23, .int .i64 64, .int .i64 (E : Int), .int .i64 (S0 : Int), .int .i64 (t : Int)] 79 := by rw [hW8]; exact ((Dk.Box.new u1 #[.pointer (some ⟨dg, 0, none⟩), .int .i64 64, .int .i64 2, .int .i64 16, .int .i64 18, .int .i64 19, .int .i64 4, .int .i64 23, .int .i64 64, .int .i64 (E : Int), .int .i64 (S0 : Int), .int .i64 (t : Int)] 79).alloc _).alloc _
  have r1 : Hid (Box W8 (u1.heap.size + 1) #[.slice none 0 0] 37) := by
    have : Box W8 (u1.heap.size + 1) #[.slice none 0 0] 37 := by rw [hW8, ← s1]; exact (Dk.Box.new (u1.alloc (.cells #[.pointer (some ⟨dg, 0, none⟩), .int .i64 64, .int .i64 2, .int .i64 16, .int .i64 18, .int .i64 19, .int .i64 4, .int .i64 23, .int .i64 64, .int .i64 (E : Int), .int .i64 (S0 : Int), .int .i64 (t : Int)] 79)) #[.slice none 0 0] 37).alloc _
    exact this
  have r2 : Hid (Box W8 (u1.heap.size + 2) #[.int .i64 0] 3) := by
    have : Box W8 (u1.heap.size + 2) #[.int .i64 0] 3 := by rw [hW8, ← s2]; exact Dk.Box.new ((u1.alloc (.cells #[.pointer (some ⟨dg, 0, none⟩), .int .i64 64, .int .i64 2, .int .i64 16, .int .i64 18, .int .i64 19, .int .i64 4, .int .i64 23, .int .i64 64, .int .i64 (E : Int), .int .i64 (S0 : Int), .int .i64 (t : Int)] 79)).alloc (.cells #[.slice none 0 0] 37)) #[.int .i64 0] 3
    exact this
  have B8 : Hid (Below u1.heap.size u1 W8) := by
    have : Below u1.heap.size u1 W8 := by rw [hW8]; exact (((Below.refl u1.heap.size u1).alloc (Nat.le_refl _) _).alloc (by simp) _).alloc (by simp; omega) _
    exact this
  have R0 : Hid (Box W8 u1.heap.size #[.pointer (some ⟨dg, 0, none⟩), .int .i64 64, .int .i64 2, .int .i64 16, .int .i64 18, .int .i64 19, .int .i64 4, .int .i64 23, .int .i64 64, .int .i64 (E : Int), .int .i64 (S0 : Int), .int .i64 (t : Int)] 79) := r0
  have cR := reader_at W8 dg 64 (E : Int) (S0 : Int) (t : Int)
  unfold rC at cR
  have g0 := r0.cell 0
  have g1 := r0.cell 1
  have g2 := r0.cell 2
  have g3 := r0.cell 3
  have g4 := r0.cell 4
  have g5 := r0.cell 5
  have g6 := r0.cell 6
  have g7 := r0.cell 7
  have g8 := r0.cell 8
  have g9 := r0.cell 9
  have g10 := r0.cell 10
  have g11 := r0.cell 11
  simp only [List.getElem?_toArray, List.getElem?_cons_zero, List.getElem?_cons_succ] at g0 g1 g2 g3 g4 g5 g6 g7 g8 g9 g10 g11
  clear r0 s1 s2 y0 y1
  have hW8' := hW8
  rw [hW8] at g0 g1 g2 g3 g4 g5 g6 g7 g8 g9 g10 g11
  gi_wp2_with fail
  refine ⟨trivial, ?_⟩
  rw [← hW8]
  refine ((callsIn_wide (n := 3)).2 cR).mono ?_
  rintro r u2 ⟨rfl, hbr, b2⟩
  clear cR g0 g1 g2 g3 g4 g5 g6 g7 g8 g9 g10 g11 f0 f1 f2 f3 f4 f5 f6 h0 h1 h2 h3 hW8 hW8' hW5
  gi_wp2_with fail
  have hz8 := s3.out
  have hz5 := HZ.out
  have e8 := b2.size
  have e1 := b1.size
  have BW8 : Below w.heap.size w W8 := (HB5.out.1.trans (b1.mono HB5.out.1.size)).trans (B8.out.mono (by omega))
  have BU2 : Below w.heap.size w u2 := BW8.trans (b2.mono BW8.size)
  have q1 : Box u2 (u1.heap.size + 1) #[.slice none 0 0] 37 := r1.out.below b2
  have q2 : Box u2 (u1.heap.size + 2) #[.int .i64 0] 3 := r2.out.below b2
  have hq3 : W8.heap.size < u2.heap.size := hbr.lt
  have hT : Tl w.heap.size (u1.heap.size + 1) (u1.heap.size + 2) W8.heap.size u2 := by
    refine ⟨hq3, fun k hk => ?_⟩
    rcases hk with rfl | rfl | ⟨v, h1, h2⟩
    · exact ⟨by omega, by omega, by omega⟩
    · exact ⟨by omega, by omega, by omega⟩
    · rw [q1.cell 0] at h1
      simp at h1
      subst h1
      cases h2
  have hI0 : I9 w D t E S0 dg (u1.heap.size + 1) (u1.heap.size + 2) u1.heap.size [] u2 := by
    obtain ⟨_, p2, p3, p4⟩ := HB5.out
    have bb5 := b1.trans ((B8.out.trans (b2.mono B8.out.size)).mono e1)
    exact ⟨⟨_, q1, World.ownsRow_nil _ _ _ _⟩, q2, fun x hx => (by cases hx), R0.out.below b2, p2.below bb5, p3.below bb5, p4.below bb5, BU2⟩
  have hHd := hands9 (4 - 1) (by omega) W8.heap.size (u1.heap.size + 1) (u1.heap.size + 2) dg w.heap.size D _ t E S0 64 ht hnb hgn hlim hS.2 u2 ((disk_cells hd).kept (fun i hi => BU2.block i (hd.flt i hi.1)) BU2.size)
    (fun k hk => ⟨hd.flt k hk.1, by obtain ⟨_, o, h1, h2⟩ := hk; exact ⟨o, (BU2.block k (hd.flt k (by assumption))).trans h1, h2⟩⟩) hbr hT BU2.size
  have HT : Hid (w.heap.size + 5 ≤ u1.heap.size ∧ u1.heap.size + 3 ≤ u2.heap.size) := ⟨by omega, by omega⟩
  clear hT q1 q2 hz8 hz5 e8 e1 hq3
  refine wpIn_range_told rfl (by omega) (gf := 50) (lb := #[.pointer (some ⟨W8.heap.size, 0, none⟩)]) rfl trivial (enters_of Try.func50 (by kernel_rfl) rfl) hHd (Below.refl _ _) Kp.trans (fun W l o o' hl ho hc _ => kp_put o' (B := u2.heap.size) (by have := HT.out; omega) hl ho hc) (fun _ => rfl)
    (fun pre W => I9 w D t E S0 dg (u1.heap.size + 1) (u1.heap.size + 2) u1.heap.size pre W) (I9.own BU2.size) hI0
    (fun pre x a' W => pre.length < 16 ∧ ∃ Bx, Box W Bx #[.int .i64 (E : Int), .int .i64 (x.s : Int), .slice x.a x.m x.c] 52 ∧ (∃ v0 : Value, Box W (u1.heap.size + 1) #[v0] 37 ∧ v0.ownBlock ≠ some Bx) ∧ GA D t E x W ∧ a' = ({ tmps := #[.pointer (some ⟨dg, 0, none⟩), .agg #[.int .i64 64, .int .i64 2, .int .i64 16, .int .i64 18, .int .i64 19, .int .i64 4, .int .i64 23], .agg #[.int .i64 64, .int .i64 (E : Int), .int .i64 (S0 : Int), .int .i64 (t : Int)], undef, .pointer (some ⟨w.heap.size, 0, none⟩), .pointer (some ⟨w.heap.size + 1, 0, none⟩), .pointer (some ⟨w.heap.size + 1 + 1, 0, none⟩), .pointer (some ⟨w.heap.size + 1 + 1 + 1, 0, none⟩), .pointer (some ⟨w.heap.size + 1 + 1 + 1 + 1, 0, none⟩), .int .i64 0, .pointer (some ⟨u1.heap.size, 0, none⟩), .pointer (some ⟨u1.heap.size + 1, 0, none⟩), .pointer (some ⟨u1.heap.size + 1 + 1, 0, none⟩), .pointer (some ⟨Bx, 0, none⟩), .int .i64 0, .pointer (some ⟨dg, 0, none⟩), .agg #[.int .i64 64, .int .i64 2, .int .i64 16, .int .i64 18, .int .i64 19, .int .i64 4, .int .i64 23], .agg #[.int .i64 64, .int .i64 (E : Int), .int .i64 (S0 : Int), .int .i64 (t : Int)], .int .i64 0, .int .i64 0, .bool false, undef, .pointer (some ⟨dg, 0, none⟩), .agg #[.int .i64 64, .int .i64 2, .int .i64 16, .int .i64 18, .int .i64 19, .int .i64 4, .int .i64 23], .agg #[.int .i64 64, .int .i64 (E : Int), .int .i64 (S0 : Int), .int .i64 (t : Int)], .agg #[.pointer (some ⟨dg, 0, none⟩), .int .i64 64, .int .i64 2, .int .i64 16, .int .i64 18, .int .i64 19, .int .i64 4, .int .i64 23, .int .i64 64, .int .i64 (E : Int), .int .i64 (S0 : Int), .int .i64 (t : Int)], .agg #[.pointer (some ⟨dg, 0, none⟩), .int .i64 64, .int .i64 2, .int .i64 16, .int .i64 18, .int .i64 19, .int .i64 4, .int .i64 23, .int .i64 64, .int .i64 (E : Int), .int .i64 (S0 : Int), .int .i64 (t : Int)], .func (.func 50) #[] #[.pointer (some ⟨W8.heap.size, 0, none⟩)], .agg #[.int .i64 (E : Int), .int .i64 (x.s : Int), .slice x.a x.m x.c], .int .i64 0, undef, undef, undef, undef, undef, undef, undef, undef, undef, undef, undef, undef, undef, undef, undef, undef, undef], defers := [] } : Act)) ?hAx ?assign ?body ?done
  case hAx =>
    intro pre x a' _ A C row hs hg hr
    obtain ⟨h0, Bx, h1, h2, h3, h4⟩ := hs
    have hk : ∀ (k : Nat) (cs : Array Value) (ty : TypeId), Box A k cs ty → C.heap[k]? = A.heap[k]? := fun k cs ty hb => hg.block k hb.lt (fun e => by
      obtain ⟨_, o, ho, hc⟩ := hr k e.symm
      have hb' : A.heap[k]? = some (.cells cs ty) := hb
      rw [hb'] at ho
      cases ho
      cases hc)
    obtain ⟨v0, h5, h6⟩ := h2
    exact ⟨h0, Bx, (hk _ _ _ h1).trans h1, ⟨v0, (hk _ _ _ h5).trans h5, h6⟩, h3.kept (fun k cs ty hb _ => hk k cs ty hb), h4⟩
  case assign =>
    rintro l pre x W K hi ⟨hA, hpl⟩ hK
    dsimp only [encG]
    have al := (Below.refl W.heap.size W).alloc (Nat.le_refl _) (.cells #[.int .i64 (E : Int), .int .i64 (x.s : Int), .slice x.a x.m x.c] 52)
    have nb := Dk.Box.new W #[.int .i64 (E : Int), .int .i64 (x.s : Int), .slice x.a x.m x.c] 52
    gi_wp2_with fail
    obtain ⟨v0, hv0, ho0⟩ := hi.row
    exact hK _ _ ((KeepsOthers.alloc _ _).from _) (kp_below al hv0.lt) (hi.below al) ⟨hpl, W.heap.size, nb, ⟨v0, hv0.below al, fun e => by have := (ho0.lt _ e).2; omega⟩, hA.kept (fun k cs ty hb _ => al.block k hb.lt), rfl⟩
  case body =>
    rintro l pre x a' W hl ⟨r, hr⟩ hi ⟨hpl, Bx, hbx, ⟨v0, hv0, hne⟩, hga, rfl⟩
    have HI : Hid (I9 w D t E S0 dg (u1.heap.size + 1) (u1.heap.size + 2) u1.heap.size pre W) := hi
    obtain ⟨⟨v, hv, hown⟩, hsum, _⟩ := hi
    obtain rfl : v0 = v := by
      have := hv.symm.trans hv0
      simpa using this.symm
    obtain ⟨av, cv, rfl⟩ := Rc.owns_shape hown
    have c0 := hv0.cell 0
    have d0 := hbx.cell 0
    have d1 := hbx.cell 1
    have d2 := hbx.cell 2
    have s0 := hsum.cell 0
    simp only [List.getElem?_toArray, List.getElem?_cons_zero, List.getElem?_cons_succ] at c0 d0 d1 d2 s0
    have al := (Below.refl W.heap.size W).alloc (Nat.le_refl _) (.cells #[.int .i64 (E : Int), .int .i64 (x.s : Int), .slice x.a x.m x.c] 52)
    have own1 := Rc.owns_below hown al
    have bsz : w.heap.size ≤ (W.alloc (.cells #[.int .i64 (E : Int), .int .i64 (x.s : Int), .slice x.a x.m x.c] 52)).heap.size := Nat.le_trans HI.out.bel.size al.size
    gi_wp2_with (gi_at_builtin; refine wpListIn_append_own_at _ rfl _ _ 37 rfl w.heap.size 52 i0 _ 3 40 Try.underlying37 hi0 hz0 hz1 hz2 rfl (by decide) _ pre.length _ rfl own1 ⟨W.heap.size, 0, none⟩ 1 1 [.int .i64 (E : Int), .int .i64 (x.s : Int), .slice x.a x.m x.c] rfl rfl ?c1 ?c2 ?c3 ?c4 bsz ?_)
    case c1 => exact World.news_of_block (cs := #[.int .i64 (E : Int), .int .i64 (x.s : Int), .slice x.a x.m x.c]) (t := 52) (fr := (0, 0)) (heap_alloc_new W _)
    case c2 => intro u hu; simp at hu; rcases hu with rfl | rfl | rfl <;> rfl
    case c3 => unfold maxLen; omega
    case c4 => omega
    intro v' w4 own4 hg4 _ hat
    obtain ⟨av', cv', rfl⟩ := Rc.owns_shape own4
    have hro : ∀ k cs (ty : TypeId), Box W k cs ty → (52 : TypeId) ≠ ty ∨ (Value.slice av pre.length cv).ownBlock ≠ some k → w4.heap[k]? = W.heap[k]? := fun k cs ty hb hn => by
      have hb1 := hb.below al
      refine (hg4.block k hb1.lt (fun e => ?_)).trans (al.block k hb.lt)
      rcases hn with h | h
      · obtain ⟨_, cur, hb2⟩ := Rc.owns_block own1 k e.symm
        exact hb2.ne hb1 h rfl
      · exact h e.symm
    have k1 : Box w4 (u1.heap.size + 1) #[.slice av pre.length cv] 37 := (hro _ _ _ hv0 (.inl (by decide))).trans hv0
    have k2 : Box w4 (u1.heap.size + 2) #[.int .i64 (tot pre : Int)] 3 := (hro _ _ _ hsum (.inl (by decide))).trans hsum
    have k3 : Box w4 Bx #[.int .i64 (E : Int), .int .i64 (x.s : Int), .slice x.a x.m x.c] 52 := (hro _ _ _ hbx (.inr hne)).trans hbx
    have m1 := k1.cell 0
    have m1f := k1.frozen 0
    simp only [List.getElem?_toArray, List.getElem?_cons_zero] at m1
    have HG4 : Hid (W.alloc (.cells #[.int .i64 (E : Int), .int .i64 (x.s : Int), .slice x.a x.m x.c] 52) |>.grownBy w4 (Value.slice av pre.length cv).ownBlock) := hg4
    have HRO : Hid (∀ k cs (ty : TypeId), Box W k cs ty → (52 : TypeId) ≠ ty ∨ (Value.slice av pre.length cv).ownBlock ≠ some k → w4.heap[k]? = W.heap[k]?) := hro
    clear hg4 hro c0 d0 d1 d2 s0 al bsz
    gi_wp2_with fail
    obtain ⟨V, hV⟩ : ∃ V, V = (w4.setCell ⟨u1.heap.size + 1, 0, none⟩ (.slice av' (pre.length + 1) cv')).drew := ⟨_, rfl⟩
    have n2 : Box V (u1.heap.size + 1 + 1) #[.int .i64 (tot pre : Int)] 3 := by rw [hV]; exact (heap_setCell_other w4 ⟨u1.heap.size + 1, 0, none⟩ (u1.heap.size + 2) _ (by show u1.heap.size + 2 ≠ u1.heap.size + 1; omega)).trans k2
    have n3 : Box V Bx #[.int .i64 (E : Int), .int .i64 (x.s : Int), .slice x.a x.m x.c] 52 := by rw [hV]; exact (heap_setCell_other w4 ⟨u1.heap.size + 1, 0, none⟩ Bx _ (by show Bx ≠ u1.heap.size + 1; exact fun e => by subst e; exact k3.ne k1 (by decide) rfl)).trans k3
    have x0 := n2.cell 0
    have x1 := n3.cell 2
    have x2 := n2.frozen 0
    simp only [List.getElem?_toArray, List.getElem?_cons_zero, List.getElem?_cons_succ] at x0 x1
    refine wpIn_region_any (by kernel_rfl) ?_
    change wpAnyIn _ _ _ _ _ _ _ _ _ (World.drew _)
    rw [← hV]
    have HV : Hid (V = (w4.setCell ⟨u1.heap.size + 1, 0, none⟩ (.slice av' (pre.length + 1) cv')).drew) := hV
    clear hV
    have cB := Rc.blocks_at (x.m : Int)
    have hm16 : x.m + 1 ≤ 16 := by
      have h1 := hga.1.2.1
      rw [← hga.2.1] at h1
      omega
    have htot : tot pre ≤ 256 := by
      have := tot_le pre (fun y hy => by
        have h1 := HI.out.all y hy
        have h2 := h1.1.2.1
        rw [← h1.2.1] at h2
        omega)
      omega
    have hm1 : 1 ≤ x.m := by
      have h := hga.1.1.1.2.1.2.1
      have h' : 1 ≤ cntAt D t x.b ∧ cntAt D t x.b ≤ 32 := by simpa [cntAt] using h
      rw [← hga.2.1] at h'
      exact h'.1
    have ebl : Rc.blocksN (x.m : Int) = (x.m : Int) + 1 := by
      unfold Rc.blocksN
      rw [if_pos (by omega)]
    rw [ebl] at cB
    have HEnd : Hid (KeepsFrom u2.heap.size W (V.setCell ⟨u1.heap.size + 1 + 1, 0, none⟩ (.int .i64 ((tot pre : Int) + ((x.m : Int) + 1)))) ∧ Kp (u1.heap.size + 1) (u1.heap.size + 2) W (V.setCell ⟨u1.heap.size + 1 + 1, 0, none⟩ (.int .i64 ((tot pre : Int) + ((x.m : Int) + 1)))) ∧ I9 w D t E S0 dg (u1.heap.size + 1) (u1.heap.size + 2) u1.heap.size (pre ++ [x]) (V.setCell ⟨u1.heap.size + 1 + 1, 0, none⟩ (.int .i64 ((tot pre : Int) + ((x.m : Int) + 1))))) := by
      obtain ⟨U, hU⟩ : ∃ U, U = (V.setCell ⟨u1.heap.size + 1 + 1, 0, none⟩ (.int .i64 ((tot pre : Int) + ((x.m : Int) + 1)))) := ⟨_, rfl⟩
      rw [← hU]
      have hT0 := HT.out
      have al2 := (Below.refl W.heap.size W).alloc (Nat.le_refl _) (.cells #[.int .i64 (E : Int), .int .i64 (x.s : Int), .slice x.a x.m x.c] 52)
      have szW4 : W.heap.size + 1 ≤ w4.heap.size := by
        have := HG4.out.size
        simpa using this
      have szU : U.heap.size = w4.heap.size := by rw [hU, HV.out]; simp
      have h4 : ∀ k, k ≠ u1.heap.size + 1 → k ≠ u1.heap.size + 2 → U.heap[k]? = w4.heap[k]? := fun k h1 h2 => by
        rw [hU]
        refine (heap_setCell_other V ⟨u1.heap.size + 1 + 1, 0, none⟩ k _ h2).trans ?_
        rw [HV.out]
        exact heap_setCell_other w4 ⟨u1.heap.size + 1, 0, none⟩ k _ h1
      have hk : ∀ k cs (ty : TypeId), Box W k cs ty → k ≠ u1.heap.size + 1 → k ≠ u1.heap.size + 2 → (52 : TypeId) ≠ ty ∨ (Value.slice av pre.length cv).ownBlock ≠ some k → U.heap[k]? = W.heap[k]? := fun k cs ty hb h1 h2 h3 => (h4 k h1 h2).trans (HRO.out k cs ty hb h3)
      have ubt : Box U (u1.heap.size + 1) #[.slice av' (pre.length + 1) cv'] 37 := by
        rw [hU]
        refine (heap_setCell_other V ⟨u1.heap.size + 1 + 1, 0, none⟩ (u1.heap.size + 1) _ (by show u1.heap.size + 1 ≠ u1.heap.size + 1 + 1; omega)).trans ?_
        rw [HV.out]
        have h := k1.store 0 (.slice av' (pre.length + 1) cv')
        simp at h
        exact h
      have ubb : Box U (u1.heap.size + 2) #[.int .i64 (tot (pre ++ [x]) : Int)] 3 := by
        rw [hU]
        have := n2.store 0 (.int .i64 ((tot pre : Int) + ((x.m : Int) + 1)))
        rw [tot_snoc]
        push_cast
        simpa using this
      have hv1 : ∀ k, (Value.slice av pre.length cv).ownBlock = some k → ∃ cur, Box W k cur 52 := fun k e => by
        obtain ⟨_, cur, hb⟩ := Rc.owns_block hown k e
        exact ⟨cur, hb⟩
      have hoth : ∀ (k : Nat) (o : Obj), W.heap[k]? = some o → (k = u1.heap.size + 1 ∨ k = u1.heap.size + 2 ∨ (Value.slice av pre.length cv).ownBlock = some k → False) → U.heap[k]? = some o := fun k o ho hn => by
        have hlt := (Array.getElem?_eq_some_iff.1 ho).1
        rw [h4 k (fun e => hn (.inl e)) (fun e => hn (.inr (.inl e))), HG4.out.block k (by simp; omega) (fun e => hn (.inr (.inr e.symm))), al2.block k hlt, ho]
      refine ⟨⟨by omega, fun k o _ ho hc => hoth k o ho (fun h => ?_)⟩, ⟨by omega, fun k o ho _ hc => hoth k o ho (fun h => hc ?_), fun k hc => ?_⟩, ?_⟩
      · have hcs : ∃ cs ty, Box W k cs ty := by
          rcases h with h | h | h
          · exact ⟨_, _, h ▸ hv0⟩
          · exact ⟨_, _, h ▸ hsum⟩
          · obtain ⟨cur, hb⟩ := hv1 k h
            exact ⟨_, _, hb⟩
        obtain ⟨cs, ty, hb⟩ := hcs
        have hb' : W.heap[k]? = some (.cells cs ty) := hb
        rw [hb'] at ho
        cases ho
        cases hc
      · rcases h with h | h | h
        · exact .inl h
        · exact .inr (.inl h)
        · exact .inr (.inr ⟨_, hv0.cell 0, h⟩)
      · rcases hc with h | h | ⟨v, e1, e2⟩
        · exact .inl (.inl h)
        · exact .inl (.inr (.inl h))
        · rw [ubt.cell 0] at e1
          simp at e1
          subst e1
          rcases hat with h | h
          · exact .inl (.inr (.inr ⟨_, hv0.cell 0, h ▸ e2⟩))
          · right
            have h5 := (own4.lt k e2).2
            rw [h] at e2
            simp at e2
            omega
      · have hi := HI.out
        have ne52 : ∀ k cs (ty : TypeId), Box W k cs ty → (52 : TypeId) ≠ ty → k ≠ u1.heap.size + 1 → k ≠ u1.heap.size + 2 → Box U k cs ty := fun k cs ty hb h1 h2 h3 => (hk k cs ty hb h2 h3 (.inl h1)).trans hb
        have gk : ∀ y, GA D t E y W → GA D t E y U := fun y hy => hy.kept (fun k cs ty hb ht => hk k cs ty hb
          (fun e => by subst e; rcases ht with rfl | rfl <;> exact hb.ne hv0 (by decide) rfl)
          (fun e => by subst e; rcases ht with rfl | rfl <;> exact hb.ne hsum (by decide) rfl)
          (.inl (by rcases ht with rfl | rfl <;> decide)))
        refine ⟨⟨_, ubt, ?_⟩, ubb, fun y hy => ?_, ne52 _ _ _ hi.rdr (by decide) (by omega) (by omega), ne52 _ _ _ hi.o2 (by decide) (by omega) (by omega), ne52 _ _ _ hi.o3 (by decide) (by omega) (by omega), ne52 _ _ _ hi.o4 (by decide) (by omega) (by omega), ?_⟩
        · rw [gsC_snoc, List.length_append]
          refine J.owns_kept own4 (fun k e => ?_)
          obtain ⟨_, cur, hb⟩ := Rc.owns_block own4 k e
          exact h4 k (fun e => by subst e; exact hb.ne k1 (by decide) rfl) (fun e => by subst e; exact hb.ne k2 (by decide) rfl)
        · rcases List.mem_append.1 hy with hy | hy
          · exact gk y (hi.all y hy)
          · obtain rfl : y = x := by simpa using hy
            exact gk y hga
        · have hb4 : Below w.heap.size w w4 := (hi.bel.trans (al2.mono hi.bel.size)).grown HG4.out (Nat.le_trans hi.bel.size al2.size) (fun k e => (hown.lt k e).1)
          rw [hU, HV.out]
          exact ((hb4.setCell (p := ⟨u1.heap.size + 1, 0, none⟩) (by show w.heap.size ≤ u1.heap.size + 1; omega) _).drew).setCell (p := ⟨u1.heap.size + 1 + 1, 0, none⟩) (by show w.heap.size ≤ u1.heap.size + 1 + 1; omega) _
    have hww : IntKind.i64.wrap ((tot pre : Int) + ((x.m : Int) + 1)) = (tot pre : Int) + ((x.m : Int) + 1) := by rw [IntKind.wrap_i64]; omega
    rw [← hww] at HEnd
    clear hww ebl hm1 n2 n3 k1 k2 k3 own4 own1 hat
    refine wpAnyIn_ready (rs := [0, 1]) (by kernel_rfl) (by simp) ?_
    refine AllReadyIn.cons rfl (fun K hK2 => ?_) ?_
    · skip
      go_simp
      refine hK2 _ _ ?_
      clear hK2 K
      refine wpAnyIn_ready (rs := [1]) (by kernel_rfl) (by simp) ?_
      refine AllReadyIn.cons rfl (fun K hK2 => ?_) ?_
      · skip
        go_simp
        refine hK2 _ _ ?_
        clear hK2 K
        refine wpAnyIn_ready (rs := [2]) (by kernel_rfl) (by simp) ?_
        refine AllReadyIn.cons rfl (fun K hK2 => ?_) ?_
        · skip
          go_simp
          refine hK2 _ _ ?_
          clear hK2 K
          refine wpAnyIn_ready (rs := [3]) (by kernel_rfl) (by simp) ?_
          refine AllReadyIn.cons rfl (fun K hK2 => ?_) ?_
          · skip
            go_simp
            refine hK2 _ _ ?_
            clear hK2 K
            refine wpAnyIn_ready (rs := [4]) (by kernel_rfl) (by simp) ?_
            refine AllReadyIn.cons rfl (fun K hK2 => ?_) ?_
            · skip
              go_simp
              refine ⟨trivial, (CallsIn.inRound l ((callsIn_wide (n := 1)).2 (cB V))).mono ?_⟩
              rintro r V' ⟨rfl, rfl⟩
              refine hK2 _ _ ?_
              clear hK2 K
              refine wpAnyIn_ready (rs := [5]) (by kernel_rfl) (by simp) ?_
              refine AllReadyIn.cons rfl (fun K hK2 => ?_) ?_
              · skip
                go_simp
                refine hK2 _ _ ?_
                clear hK2 K
                refine wpAnyIn_ready (rs := [6]) (by kernel_rfl) (by simp) ?_
                refine AllReadyIn.cons rfl (fun K hK2 => ?_) ?_
                · skip
                  go_simp
                  refine hK2 _ _ ?_
                  clear hK2 K
                  refine wpAnyIn_done (by kernel_rfl) ?_ _
                  gi_wp2_with fail
                  exact HEnd.out
                exact AllReadyIn.nil
              exact AllReadyIn.nil
            exact AllReadyIn.nil
          exact AllReadyIn.nil
        exact AllReadyIn.nil
      exact AllReadyIn.nil
    refine AllReadyIn.cons rfl (fun K hK2 => ?_) ?_
    · skip
      go_simp
      refine hK2 _ _ ?_
      clear hK2 K
      refine wpAnyIn_ready (rs := [0, 2]) (by kernel_rfl) (by simp) ?_
      refine AllReadyIn.cons rfl (fun K hK2 => ?_) ?_
      · skip
        go_simp
        refine hK2 _ _ ?_
        clear hK2 K
        refine wpAnyIn_ready (rs := [2]) (by kernel_rfl) (by simp) ?_
        refine AllReadyIn.cons rfl (fun K hK2 => ?_) ?_
        · skip
          go_simp
          refine hK2 _ _ ?_
          clear hK2 K
          refine wpAnyIn_ready (rs := [3]) (by kernel_rfl) (by simp) ?_
          refine AllReadyIn.cons rfl (fun K hK2 => ?_) ?_
          · skip
            go_simp
            refine hK2 _ _ ?_
            clear hK2 K
            refine wpAnyIn_ready (rs := [4]) (by kernel_rfl) (by simp) ?_
            refine AllReadyIn.cons rfl (fun K hK2 => ?_) ?_
            · skip
              go_simp
              refine ⟨trivial, (CallsIn.inRound l ((callsIn_wide (n := 1)).2 (cB V))).mono ?_⟩
              rintro r V' ⟨rfl, rfl⟩
              refine hK2 _ _ ?_
              clear hK2 K
              refine wpAnyIn_ready (rs := [5]) (by kernel_rfl) (by simp) ?_
              refine AllReadyIn.cons rfl (fun K hK2 => ?_) ?_
              · skip
                go_simp
                refine hK2 _ _ ?_
                clear hK2 K
                refine wpAnyIn_ready (rs := [6]) (by kernel_rfl) (by simp) ?_
                refine AllReadyIn.cons rfl (fun K hK2 => ?_) ?_
                · skip
                  go_simp
                  refine hK2 _ _ ?_
                  clear hK2 K
                  refine wpAnyIn_done (by kernel_rfl) ?_ _
                  gi_wp2_with fail
                  exact HEnd.out
                exact AllReadyIn.nil
              exact AllReadyIn.nil
            exact AllReadyIn.nil
          exact AllReadyIn.nil
        exact AllReadyIn.nil
      refine AllReadyIn.cons rfl (fun K hK2 => ?_) ?_
      · skip
        go_simp
        refine hK2 _ _ ?_
        clear hK2 K
        refine wpAnyIn_ready (rs := [0, 3]) (by kernel_rfl) (by simp) ?_
        refine AllReadyIn.cons rfl (fun K hK2 => ?_) ?_
        · skip
          go_simp
          refine hK2 _ _ ?_
          clear hK2 K
          refine wpAnyIn_ready (rs := [3]) (by kernel_rfl) (by simp) ?_
          refine AllReadyIn.cons rfl (fun K hK2 => ?_) ?_
          · skip
            go_simp
            refine hK2 _ _ ?_
            clear hK2 K
            refine wpAnyIn_ready (rs := [4]) (by kernel_rfl) (by simp) ?_
            refine AllReadyIn.cons rfl (fun K hK2 => ?_) ?_
            · skip
              go_simp
              refine ⟨trivial, (CallsIn.inRound l ((callsIn_wide (n := 1)).2 (cB V))).mono ?_⟩
              rintro r V' ⟨rfl, rfl⟩
              refine hK2 _ _ ?_
              clear hK2 K
              refine wpAnyIn_ready (rs := [5]) (by kernel_rfl) (by simp) ?_
              refine AllReadyIn.cons rfl (fun K hK2 => ?_) ?_
              · skip
                go_simp
                refine hK2 _ _ ?_
                clear hK2 K
                refine wpAnyIn_ready (rs := [6]) (by kernel_rfl) (by simp) ?_
                refine AllReadyIn.cons rfl (fun K hK2 => ?_) ?_
                · skip
                  go_simp
                  refine hK2 _ _ ?_
                  clear hK2 K
                  refine wpAnyIn_done (by kernel_rfl) ?_ _
                  gi_wp2_with fail
                  exact HEnd.out
                exact AllReadyIn.nil
              exact AllReadyIn.nil
            exact AllReadyIn.nil
          exact AllReadyIn.nil
        refine AllReadyIn.cons rfl (fun K hK2 => ?_) ?_
        · skip
          go_simp
          refine hK2 _ _ ?_
          clear hK2 K
          refine wpAnyIn_ready (rs := [0, 4]) (by kernel_rfl) (by simp) ?_
          refine AllReadyIn.cons rfl (fun K hK2 => ?_) ?_
          · skip
            go_simp
            refine hK2 _ _ ?_
            clear hK2 K
            refine wpAnyIn_ready (rs := [4]) (by kernel_rfl) (by simp) ?_
            refine AllReadyIn.cons rfl (fun K hK2 => ?_) ?_
            · skip
              go_simp
              refine ⟨trivial, (CallsIn.inRound l ((callsIn_wide (n := 1)).2 (cB V))).mono ?_⟩
              rintro r V' ⟨rfl, rfl⟩
              refine hK2 _ _ ?_
              clear hK2 K
              refine wpAnyIn_ready (rs := [5]) (by kernel_rfl) (by simp) ?_
              refine AllReadyIn.cons rfl (fun K hK2 => ?_) ?_
              · skip
                go_simp
                refine hK2 _ _ ?_
                clear hK2 K
                refine wpAnyIn_ready (rs := [6]) (by kernel_rfl) (by simp) ?_
                refine AllReadyIn.cons rfl (fun K hK2 => ?_) ?_
                · skip
                  go_simp
                  refine hK2 _ _ ?_
                  clear hK2 K
                  refine wpAnyIn_done (by kernel_rfl) ?_ _
                  gi_wp2_with fail
                  exact HEnd.out
                exact AllReadyIn.nil
              exact AllReadyIn.nil
            exact AllReadyIn.nil
          refine AllReadyIn.cons rfl (fun K hK2 => ?_) ?_
          · skip
            go_simp
            refine ⟨trivial, (CallsIn.inRound l ((callsIn_wide (n := 1)).2 (cB V))).mono ?_⟩
            rintro r V' ⟨rfl, rfl⟩
            refine hK2 _ _ ?_
            clear hK2 K
            refine wpAnyIn_ready (rs := [0]) (by kernel_rfl) (by simp) ?_
            refine AllReadyIn.cons rfl (fun K hK2 => ?_) ?_
            · skip
              go_simp
              refine hK2 _ _ ?_
              clear hK2 K
              refine wpAnyIn_ready (rs := [5]) (by kernel_rfl) (by simp) ?_
              refine AllReadyIn.cons rfl (fun K hK2 => ?_) ?_
              · skip
                go_simp
                refine hK2 _ _ ?_
                clear hK2 K
                refine wpAnyIn_ready (rs := [6]) (by kernel_rfl) (by simp) ?_
                refine AllReadyIn.cons rfl (fun K hK2 => ?_) ?_
                · skip
                  go_simp
                  refine hK2 _ _ ?_
                  clear hK2 K
                  refine wpAnyIn_done (by kernel_rfl) ?_ _
                  gi_wp2_with fail
                  exact HEnd.out
                exact AllReadyIn.nil
              exact AllReadyIn.nil
            exact AllReadyIn.nil
          exact AllReadyIn.nil
        exact AllReadyIn.nil
      exact AllReadyIn.nil
    exact AllReadyIn.nil
  case done =>
    rintro D' xs W hD hR hi hdf
    have hfit := hR.fits (by omega)
    obtain ⟨⟨v, hv, hown⟩, hsum, hall, hrd, p2, p3, p4, hbel⟩ := hi
    obtain ⟨av, cv, rfl⟩ := Rc.owns_shape hown
    have HS : Hid (∀ u, Below W.heap.size W u → u.cell? ⟨u1.heap.size, 0, none⟩ = some (.pointer (some ⟨dg, 0, none⟩)) ∧ u.cell? ⟨u1.heap.size, 1, none⟩ = some (.int .i64 64) ∧ u.cell? ⟨u1.heap.size, 2, none⟩ = some (.int .i64 2) ∧ u.cell? ⟨u1.heap.size, 3, none⟩ = some (.int .i64 16) ∧ u.cell? ⟨u1.heap.size, 4, none⟩ = some (.int .i64 18) ∧ u.cell? ⟨u1.heap.size, 5, none⟩ = some (.int .i64 19) ∧ u.cell? ⟨u1.heap.size, 6, none⟩ = some (.int .i64 4) ∧ u.cell? ⟨u1.heap.size, 7, none⟩ = some (.int .i64 23) ∧ u.cell? ⟨u1.heap.size, 8, none⟩ = some (.int .i64 64) ∧ u.cell? ⟨u1.heap.size, 9, none⟩ = some (.int .i64 (E : Int)) ∧ u.cell? ⟨u1.heap.size, 10, none⟩ = some (.int .i64 (S0 : Int)) ∧ u.cell? ⟨u1.heap.size, 11, none⟩ = some (.int .i64 (t : Int)) ∧ u.cell? ⟨u1.heap.size + 1, 0, none⟩ = some (.slice av xs.length cv) ∧ u.cell? ⟨u1.heap.size + 1 + 1, 0, none⟩ = some (.int .i64 (tot xs : Int))) := fun u bu => by
      have y := hrd.below bu
      unfold rC at y
      exact ⟨y.cell 0, y.cell 1, y.cell 2, y.cell 3, y.cell 4, y.cell 5, y.cell 6, y.cell 7, y.cell 8, y.cell 9, y.cell 10, y.cell 11, (hv.below bu).cell 0, (hsum.below bu).cell 0⟩
    have HS2 : Hid (∀ (u : World) (b : Nat) (v : Value), b < u1.heap.size → (u.cell? ⟨u1.heap.size, 0, none⟩ = some (.pointer (some ⟨dg, 0, none⟩)) ∧ u.cell? ⟨u1.heap.size, 1, none⟩ = some (.int .i64 64) ∧ u.cell? ⟨u1.heap.size, 2, none⟩ = some (.int .i64 2) ∧ u.cell? ⟨u1.heap.size, 3, none⟩ = some (.int .i64 16) ∧ u.cell? ⟨u1.heap.size, 4, none⟩ = some (.int .i64 18) ∧ u.cell? ⟨u1.heap.size, 5, none⟩ = some (.int .i64 19) ∧ u.cell? ⟨u1.heap.size, 6, none⟩ = some (.int .i64 4) ∧ u.cell? ⟨u1.heap.size, 7, none⟩ = some (.int .i64 23) ∧ u.cell? ⟨u1.heap.size, 8, none⟩ = some (.int .i64 64) ∧ u.cell? ⟨u1.heap.size, 9, none⟩ = some (.int .i64 (E : Int)) ∧ u.cell? ⟨u1.heap.size, 10, none⟩ = some (.int .i64 (S0 : Int)) ∧ u.cell? ⟨u1.heap.size, 11, none⟩ = some (.int .i64 (t : Int)) ∧ u.cell? ⟨u1.heap.size + 1, 0, none⟩ = some (.slice av xs.length cv) ∧ u.cell? ⟨u1.heap.size + 1 + 1, 0, none⟩ = some (.int .i64 (tot xs : Int))) → ((fun u : World => u.cell? ⟨u1.heap.size, 0, none⟩ = some (.pointer (some ⟨dg, 0, none⟩)) ∧ u.cell? ⟨u1.heap.size, 1, none⟩ = some (.int .i64 64) ∧ u.cell? ⟨u1.heap.size, 2, none⟩ = some (.int .i64 2) ∧ u.cell? ⟨u1.heap.size, 3, none⟩ = some (.int .i64 16) ∧ u.cell? ⟨u1.heap.size, 4, none⟩ = some (.int .i64 18) ∧ u.cell? ⟨u1.heap.size, 5, none⟩ = some (.int .i64 19) ∧ u.cell? ⟨u1.heap.size, 6, none⟩ = some (.int .i64 4) ∧ u.cell? ⟨u1.heap.size, 7, none⟩ = some (.int .i64 23) ∧ u.cell? ⟨u1.heap.size, 8, none⟩ = some (.int .i64 64) ∧ u.cell? ⟨u1.heap.size, 9, none⟩ = some (.int .i64 (E : Int)) ∧ u.cell? ⟨u1.heap.size, 10, none⟩ = some (.int .i64 (S0 : Int)) ∧ u.cell? ⟨u1.heap.size, 11, none⟩ = some (.int .i64 (t : Int)) ∧ u.cell? ⟨u1.heap.size + 1, 0, none⟩ = some (.slice av xs.length cv) ∧ u.cell? ⟨u1.heap.size + 1 + 1, 0, none⟩ = some (.int .i64 (tot xs : Int))) (u.setCell ⟨b, 0, none⟩ v))) := fun u b v hb hu => by
      have ho : ∀ k j, u1.heap.size ≤ k → (u.setCell ⟨b, 0, none⟩ v).cell? ⟨k, j, none⟩ = u.cell? ⟨k, j, none⟩ := fun k j hk => World.cell?_of_block (heap_setCell_other u ⟨b, 0, none⟩ k v (by show k ≠ b; omega))
      simp only [ho _ _ (Nat.le_refl _), ho (u1.heap.size + 1) _ (by omega), ho (u1.heap.size + 1 + 1) _ (by omega)]
      exact hu
    have hlo : w.heap.size + 1 + 1 + 1 + 1 < u1.heap.size := by have := HT.out; omega
    have cP := place_at dg t (tot xs) 64 (E : Int) (S0 : Int) W.drew ht (by omega)
    unfold rC at cP
    have Bd : Below W.heap.size W W.drew := (Below.refl W.heap.size W).drew
    gi_wp2_with fail
    refine wpIn_wide.2 ?_
    go_region_held3 (fun u => u.cell? ⟨u1.heap.size, 0, none⟩ = some (.pointer (some ⟨dg, 0, none⟩)) ∧ u.cell? ⟨u1.heap.size, 1, none⟩ = some (.int .i64 64) ∧ u.cell? ⟨u1.heap.size, 2, none⟩ = some (.int .i64 2) ∧ u.cell? ⟨u1.heap.size, 3, none⟩ = some (.int .i64 16) ∧ u.cell? ⟨u1.heap.size, 4, none⟩ = some (.int .i64 18) ∧ u.cell? ⟨u1.heap.size, 5, none⟩ = some (.int .i64 19) ∧ u.cell? ⟨u1.heap.size, 6, none⟩ = some (.int .i64 4) ∧ u.cell? ⟨u1.heap.size, 7, none⟩ = some (.int .i64 23) ∧ u.cell? ⟨u1.heap.size, 8, none⟩ = some (.int .i64 64) ∧ u.cell? ⟨u1.heap.size, 9, none⟩ = some (.int .i64 (E : Int)) ∧ u.cell? ⟨u1.heap.size, 10, none⟩ = some (.int .i64 (S0 : Int)) ∧ u.cell? ⟨u1.heap.size, 11, none⟩ = some (.int .i64 (t : Int)) ∧ u.cell? ⟨u1.heap.size + 1, 0, none⟩ = some (.slice av xs.length cv) ∧ u.cell? ⟨u1.heap.size + 1 + 1, 0, none⟩ = some (.int .i64 (tot xs : Int)))
      (first | with_reducible exact HS.out _ Bd | with_reducible exact HS.out _ BW | exact HS2.out _ _ _ (by omega) (HS.out _ BW) | exact HS2.out _ _ _ (by omega) (HS2.out _ _ _ (by omega) (HS.out _ BW)) | exact HS2.out _ _ _ (by omega) (HS2.out _ _ _ (by omega) (HS2.out _ _ _ (by omega) (HS.out _ BW))))
      (first
        | (go_at_call 32; refine Calls.mono cP ?_; rintro r u7 ⟨rfl, bW⟩; have BW : Below W.heap.size W u7 := Bd.trans (bW.mono Bd.size); have z2 := (show Box u7 (w.heap.size + 1 + 1) _ 37 from p2.below BW).cell 0; have z2f := (show Box u7 (w.heap.size + 1 + 1) _ 37 from p2.below BW).frozen 0; have z3 := (show Box u7 (w.heap.size + 1 + 1 + 1) _ 3 from p3.below BW).cell 0; have z3f := (show Box u7 (w.heap.size + 1 + 1 + 1) _ 3 from p3.below BW).frozen 0; have z4 := (show Box u7 (w.heap.size + 1 + 1 + 1 + 1) _ 29 from p4.below BW).cell 0; have z4f := (show Box u7 (w.heap.size + 1 + 1 + 1 + 1) _ 29 from p4.below BW).frozen 0; simp only [List.getElem?_toArray, List.getElem?_cons_zero] at z2 z3 z4))
    obtain ⟨V, hV⟩ : ∃ V, V = (((u7.setCell ⟨w.heap.size + 1 + 1, 0, none⟩ (.slice av xs.length cv)).setCell ⟨w.heap.size + 1 + 1 + 1, 0, none⟩ (.int .i64 (((t : Int) + (tot xs : Int)) % 16))).setCell ⟨w.heap.size + 1 + 1 + 1 + 1, 0, none⟩ (.int .i64 0)) := ⟨_, rfl⟩
    rw [← hV]
    have hot : ∀ k, k ≠ w.heap.size + 1 + 1 → k ≠ w.heap.size + 1 + 1 + 1 → k ≠ w.heap.size + 1 + 1 + 1 + 1 → V.heap[k]? = u7.heap[k]? := fun k h1 h2 h3 => by
      rw [hV]
      exact (heap_setCell_other _ ⟨w.heap.size + 1 + 1 + 1 + 1, 0, none⟩ k _ h3).trans ((heap_setCell_other _ ⟨w.heap.size + 1 + 1 + 1, 0, none⟩ k _ h2).trans (heap_setCell_other _ ⟨w.heap.size + 1 + 1, 0, none⟩ k _ h1))
    have hDl := (Array.getElem?_eq_some_iff.1 hdf).1
    have hu2 := BU2.size
    have hT9 := HT.out
    have hK' : V.heap[D']? = some (.deferred (some [])) := (hot D' (by omega) (by omega) (by omega)).trans ((BW.block D' hDl).trans hdf)
    have q2 : Box u7 (w.heap.size + 1 + 1) #[.slice none 0 0] 37 := p2.below BW
    have q3 : Box u7 (w.heap.size + 1 + 1 + 1) #[.int .i64 0] 3 := p3.below BW
    have q4 : Box u7 (w.heap.size + 1 + 1 + 1 + 1) #[.int .i64 0] 29 := p4.below BW
    have t2 : V.cell? ⟨w.heap.size + 1 + 1, 0, none⟩ = some (.slice av xs.length cv) := by
      rw [hV]
      have h := q2.store 0 (.slice av xs.length cv)
      simp at h
      have h' := World.cell?_of_block (a := ⟨w.heap.size + 1 + 1, 0, none⟩) ((heap_setCell_other _ ⟨w.heap.size + 1 + 1 + 1 + 1, 0, none⟩ (w.heap.size + 1 + 1) (.int .i64 0) (by show w.heap.size + 1 + 1 ≠ w.heap.size + 1 + 1 + 1 + 1; omega)).trans (heap_setCell_other (u7.setCell ⟨w.heap.size + 1 + 1, 0, none⟩ (.slice av xs.length cv)) ⟨w.heap.size + 1 + 1 + 1, 0, none⟩ (w.heap.size + 1 + 1) (.int .i64 (((t : Int) + (tot xs : Int)) % 16)) (by show w.heap.size + 1 + 1 ≠ w.heap.size + 1 + 1 + 1; omega)))
      exact h'.trans (Dk.Box.cell h 0)
    have t3 : V.cell? ⟨w.heap.size + 1 + 1 + 1, 0, none⟩ = some (.int .i64 (((t : Int) + (tot xs : Int)) % 16)) := by
      rw [hV]
      have q3' : Box (u7.setCell ⟨w.heap.size + 1 + 1, 0, none⟩ (.slice av xs.length cv)) (w.heap.size + 1 + 1 + 1) #[.int .i64 0] 3 := (heap_setCell_other u7 ⟨w.heap.size + 1 + 1, 0, none⟩ (w.heap.size + 1 + 1 + 1) _ (by show w.heap.size + 1 + 1 + 1 ≠ w.heap.size + 1 + 1; omega)).trans q3
      have h := q3'.store 0 (.int .i64 (((t : Int) + (tot xs : Int)) % 16))
      simp at h
      exact (World.cell?_of_block (a := ⟨w.heap.size + 1 + 1 + 1, 0, none⟩) (heap_setCell_other _ ⟨w.heap.size + 1 + 1 + 1 + 1, 0, none⟩ (w.heap.size + 1 + 1 + 1) (.int .i64 0) (by show w.heap.size + 1 + 1 + 1 ≠ w.heap.size + 1 + 1 + 1 + 1; omega))).trans (Dk.Box.cell h 0)
    have t4 : V.cell? ⟨w.heap.size + 1 + 1 + 1 + 1, 0, none⟩ = some (.int .i64 0) := by
      rw [hV]
      exact World.cell?_setCell_same' _ _ _ (by
        rw [World.cell?_of_block (a := ⟨w.heap.size + 1 + 1 + 1 + 1, 0, none⟩) ((heap_setCell_other _ ⟨w.heap.size + 1 + 1 + 1, 0, none⟩ (w.heap.size + 1 + 1 + 1 + 1) _ (by show w.heap.size + 1 + 1 + 1 + 1 ≠ w.heap.size + 1 + 1 + 1; omega)).trans (heap_setCell_other u7 ⟨w.heap.size + 1 + 1, 0, none⟩ (w.heap.size + 1 + 1 + 1 + 1) _ (by show w.heap.size + 1 + 1 + 1 + 1 ≠ w.heap.size + 1 + 1; omega))), q4.cell 0]
        rfl)
    have hBV : Below w.heap.size w V := by
      rw [hV]
      exact (((hbel.trans (BW.mono hbel.size)).setCell (p := ⟨w.heap.size + 1 + 1, 0, none⟩) (by show w.heap.size ≤ w.heap.size + 1 + 1; omega) _).setCell (p := ⟨w.heap.size + 1 + 1 + 1, 0, none⟩) (by show w.heap.size ≤ w.heap.size + 1 + 1 + 1; omega) _).setCell (p := ⟨w.heap.size + 1 + 1 + 1 + 1, 0, none⟩) (by show w.heap.size ≤ w.heap.size + 1 + 1 + 1 + 1; omega) _
    have hkp : ∀ k cs (ty : TypeId), Box W k cs ty → ty = 52 ∨ ty = 94 ∨ ty = 5 → (V.putObj D' (.deferred none)).heap[k]? = W.heap[k]? := fun k cs ty hb hty => by
      have hb7 := hb.below BW
      have n1 : k ≠ D' := fun e => by
        subst e
        have hb' : W.heap[k]? = some (.cells cs ty) := hb
        rw [hb'] at hdf
        cases hdf
      refine (World.putObj_heap_other n1).trans ((hot k (fun e => ?_) (fun e => ?_) (fun e => ?_)).trans (BW.block k hb.lt))
      · subst e; rcases hty with rfl | rfl | rfl <;> exact hb7.ne q2 (by decide) rfl
      · subst e; rcases hty with rfl | rfl | rfl <;> exact hb7.ne q3 (by decide) rfl
      · subst e; rcases hty with rfl | rfl | rfl <;> exact hb7.ne q4 (by decide) rfl
    have c2 := cell_kept t2 (grownBy_putObj' _ D' (.deferred none)) (fun r e => by cases e; exact ⟨_, hK', rfl⟩)
    have c3 := cell_kept t3 (grownBy_putObj' _ D' (.deferred none)) (fun r e => by cases e; exact ⟨_, hK', rfl⟩)
    have c4 := cell_kept t4 (grownBy_putObj' _ D' (.deferred none)) (fun r e => by cases e; exact ⟨_, hK', rfl⟩)
    clear hV hot t2 t3 t4
    gi_wp2
    refine ⟨by simp, .inl ⟨_, _, rfl, run_takeDeferred hK', ?_⟩⟩
    refine ⟨.tuple #[.slice av xs.length cv, .int .i64 (((t : Int) + (tot xs : Int)) % 16), .int .i64 0], ?_, ⟨xs, av, cv, by push_cast; rfl, hR, J.owns_kept hown (fun k e => ?_), fun y hy => (hall y hy).kept (fun k cs ty hb ht => hkp k cs ty hb (.inr ht)), hBV.trans (belowK_b (w := w) (Nat.le_refl _) _ D' _ _ (by omega) hK' rfl rfl)⟩⟩
    · simp [results, Try.f12, go_sem, c2, c3, c4]
    · obtain ⟨_, cur, hb⟩ := Rc.owns_block hown k e
      exact hkp k _ _ hb (.inl rfl)
end Go.Proofs.Ytkhejjddmbegaaa.S

/-
  One group more is appended to the law's disk, or there is no room.
-/
namespace Go.Proofs.Ytkhejjddmbegaaa.S
open Go.RowKit
open Go.Proofs.Ytkhejjddmbegaaa.Dk (Box)
open Go.Proofs.Ytkhejjddmbegaaa.J (JD JTo ics grow owns_kept upd_below pk pk_in pick_eq)

theorem upd_wide {F G : Nat → Prop} {w w' : World} (h : Dk.Upd F w w') (hG : ∀ i, F i → G i) : Dk.Upd G w w' := ⟨h.os, h.tape, h.output, h.size, fun k hk hn => h.block k hk (fun hf => hn (hG k hf))⟩
section
variable {w u u' : World} {g dg e t : Nat} {s s' : W9} {v : Value} {qs : List G9} {q : G9}
/-- the group is appended, its images are not yet listed -/
structure SwA (w : World) (g dg e t : Nat) (s : W9) (v : Value) (qs : List G9) (q : G9) (u : World) : Prop where
  ex : ∃ F, JD u g dg ⟨2, (e : Int), ((s.gs.length + 1 : Nat) : Int), 0, 16, (t : Int), (s.U : Int), 0, false⟩ (sz9 s.gs) s.D F ∧ (∀ q' ∈ qs ++ [q], ImF (fun k => F k ∨ k < w.heap.size) u q'.al q'.n q'.cl (im9 q'.z q'.n)) ∧ (∀ k, v.ownBlock = some k → ¬ F k) ∧ (∀ k, F k → w.heap.size ≤ k)
  row : u.ownsRow w.heap.size 50 1 v qs.length (alC qs)
  same : (qs ++ [q]).map (fun q => (q.n, q.z)) = s.gs
  bel : Below w.heap.size w u

theorem Sw.append_ok (h : SwI w g dg e t s v qs q u) {k : Nat} (ho : Ok9 s k) (hk : k ≤ 12) (he : 1 ≤ e ∧ e ≤ 9) (ht : t < 16) (hq : q.n = n9 q.z) (hr : s.U + (n9 q.z + 1) ≤ 16) :
    Calls Try.prog 21 #[.pointer (some ⟨g, 0, none⟩), .slice q.al q.n q.cl, .bool false] u fun r u' => (∃ x : Int, r = .returned (.tuple #[.int .i64 x, .int .i64 0])) ∧ SwA w g dg e t (step9 e t s q.z) v qs q u' := by
  obtain ⟨⟨F, ⟨j, im, hv, hF⟩, iq⟩, r, sm, bl⟩ := h
  obtain ⟨h1, h2, h3, h4, h5, h6, h7⟩ := ho
  have hn := n9_in q.z
  have hst : Rc.okStamp (e : Int) ((s.gs.length + 1 : Nat) : Int) = true := (Rc.okStamp_iff _ _).2 (by omega)
  have hR : Rg.R 16 (t : Int) (s.U : Int) 0 := by unfold Rg.R; omega
  have c := J.append_ok (cap := q.cl) (is := im9 q.z q.n) j rfl (im9_length q.z q.n) iq.imgs (im9_ok _ _ q.z q.n (by omega) (by omega) hst) hR
    (by show ((q.n + 1 : Nat) : Int) ≤ Rg.fr 16 (t : Int) (s.U : Int) 0; rw [Rg.fr, if_pos hR]; omega) rfl h1 (by show (16 : Int) ≤ 64; decide) (by show 2 + (16 : Int) ≤ s.D.nb; rw [h2]; decide) (by omega) (by omega) (by simp [sz9]; omega)
  refine c.mono ?_
  rintro x u' ⟨rfl, F', j', hF', ud⟩
  refine ⟨⟨_, rfl⟩, ?_⟩
  have e1 : (((t : Int) + (s.U : Int)) % 16).toNat = (t + s.U) % 16 := by omega
  have es : step9 e t s q.z = ⟨grow s.D 16 ((t + s.U) % 16) (Rc.putL e (s.gs.length + 1) (im9 q.z q.n)) (q.n + 1), s.U + (q.n + 1), s.gs ++ [(q.n, q.z)]⟩ := by
    unfold step9
    rw [if_pos hr, hq]
  rw [es]
  refine ⟨⟨F', ?_, ?_, ?_, ?_⟩, ?_, ?_, ?_⟩
  · have := j'
    simpa [sz9, e1] using this
  · intro q' hq'
    rcases List.mem_append.1 hq' with hq' | hq'
    · exact (im q' hq').upd (upd_wide ud (fun i hi => .inl hi)) (fun i hi => hi.elim (fun h => (hF' i h).elim (fun h => .inl (.inl h)) .inr) (fun h => .inl (.inr h)))
    · obtain rfl : q' = q := by simpa using hq'
      exact iq.upd (upd_wide ud (fun i hi => .inl hi)) (fun i hi => hi.elim (fun h => (hF' i h).elim (fun h => .inl (.inl h)) .inr) (fun h => .inl (.inr h)))
  · intro k hk hf
    rcases hF' k hf with a | a
    · exact hv k hk a
    · have := (r.lt k hk).2
      omega
  · intro k hf
    rcases hF' k hf with a | a
    · exact hF k a
    · have := bl.size
      omega
  · exact owns_kept r (fun k hk => ud.block k (r.lt k hk).2 (hv k hk))
  · simp [sm]
  · exact bl.trans (ud.below hF bl.size)
theorem Sw.append_full (h : SwI w g dg e t s v qs q u) {k : Nat} (ho : Ok9 s k) (hk : k ≤ 12) (he : 1 ≤ e ∧ e ≤ 9) (ht : t < 16) (hq : q.n = n9 q.z) (hr : ¬ s.U + (n9 q.z + 1) ≤ 16) :
    Calls Try.prog 21 #[.pointer (some ⟨g, 0, none⟩), .slice q.al q.n q.cl, .bool false] u fun r u' => (r = .returned (.tuple #[.int .i64 0, .int .i64 5])) ∧ Sw w g dg e t (step9 e t s q.z) v qs u' := by
  have hs := h.sw
  obtain ⟨⟨F, ⟨j, im, hv, hF⟩, iq⟩, r, sm, bl⟩ := h
  obtain ⟨h1, h2, h3, h4, h5, h6, h7⟩ := ho
  have hn := n9_in q.z
  have hst : Rc.okStamp (e : Int) ((s.gs.length + 1 : Nat) : Int) = true := (Rc.okStamp_iff _ _).2 (by omega)
  have hR : Rg.R 16 (t : Int) (s.U : Int) 0 := by unfold Rg.R; omega
  obtain ⟨⟨vs, Fd, hb, _⟩, _⟩ := j
  have c := J.append_full (cap := q.cl) (is := im9 q.z q.n) hb rfl (im9_length q.z q.n) iq.imgs (im9_ok _ _ q.z q.n (by omega) (by omega) hst) (by show ¬ (16 : Int) < _; omega) hR
    (by show ¬ ((q.n + 1 : Nat) : Int) ≤ Rg.fr 16 (t : Int) (s.U : Int) 0; rw [Rg.fr, if_pos hR]; omega)
  refine c.mono ?_
  rintro x u' ⟨rfl, b⟩
  refine ⟨rfl, ?_⟩
  have es : step9 e t s q.z = s := by
    unfold step9
    rw [if_neg hr]
  rw [es]
  exact hs.below b
theorem SwA.below (h : SwA w g dg e t s v qs q u) (b : Below u.heap.size u u') : SwA w g dg e t s v qs q u' := by
  obtain ⟨⟨F, j, im, hv, hF⟩, r, sm, bl⟩ := h
  exact ⟨⟨F, j.below j.flt b b.size, fun q hq => (im q hq).below b, hv, hF⟩, Rc.owns_below r b, sm, bl.trans (b.mono bl.size)⟩
/-- the images are listed -/
theorem SwA.list (h : SwA w g dg e t s v qs q u) {v' : Value} (ho : u'.ownsRow w.heap.size 50 1 v' (qs.length + 1) (alC qs ++ [.slice q.al q.n q.cl])) (hg : u.grownBy u' v.ownBlock) (hv' : ∀ k, v'.ownBlock = some k → v.ownBlock = some k ∨ u.heap.size ≤ k) : Sw w g dg e t s v' (qs ++ [q]) u' := by
  obtain ⟨⟨F, j, im, hv, hF⟩, r, sm, bl⟩ := h
  refine ⟨⟨F, j.kept (fun i hi => hg.block i (j.flt i hi) (fun e => hv i e.symm hi)) hg.size, fun q hq => (im q hq).kept (fun k hk hb => hg.block k hk (fun e => ?_)), fun k hk hf => ?_, hF⟩, ?_, sm, bl.grown hg bl.size (fun k e => (r.lt k e).1)⟩
  · obtain ⟨_, cur, b⟩ := Rc.owns_block r k e.symm
    exact hb cur b
  · rcases hv' k hk with a | a
    · exact hv k a hf
    · have := j.flt k hf
      omega
  · have e : alC (qs ++ [q]) = alC qs ++ [.slice q.al q.n q.cl] := by simp [alC]
    rw [e, List.length_append]
    exact ho
/-- a new disk and its journal -/
theorem Sw.start {F : Nat → Prop} (hd : Dk.IsDisk u dg (Dk.DS.new 64 (Dk.nought (64 * 4096))) F) (hF : ∀ i, F i → w.heap.size ≤ i) (hg : Box u g (J.jC g dg (.slice none 0 0) ⟨2, (e : Int), 1, 0, 16, (t : Int), 0, 0, false⟩) 91) (hgF : ¬ F g) (hgw : w.heap.size ≤ g) (b : Below w.heap.size w u) (hf : ∀ i, F i → i < u.heap.size) :
    Sw w g dg e t ⟨Dk.DS.new 64 (Dk.nought (64 * 4096)), 0, []⟩ (.slice none 0 0) [] u := by
  refine ⟨⟨fun i => F i ∨ i = g, ⟨⟨.slice none 0 0, F, hg, hd, hgF, World.ownsRow_nil _ _ _ _, fun k hk => (by cases hk), fun i hi => .inl hi⟩, .inr rfl, fun i hi => ?_⟩, fun q hq => (by cases hq), fun k hk => (by cases hk), fun k hk => ?_⟩, World.ownsRow_nil _ _ _ _, rfl, b⟩
  · rcases hi with hi | rfl
    · exact hf i hi
    · exact hg.lt
  · rcases hk with hk | rfl
    · exact hF k hk
    · exact hgw
end
end Go.Proofs.Ytkhejjddmbegaaa.S

/-
  SameInts.
-/
namespace Go.Proofs.Ytkhejjddmbegaaa.Dk
open Go.RowKit

/-- These whole numbers lie where a says (of none nothing is asked). -/
def RdI (w : World) (a : Option Addr) (zs : List Int) : Prop :=
  0 < zs.length → ∃ b o, a = some ⟨b, o, none⟩ ∧ ∀ j (h : j < zs.length), w.cell? ⟨b, o + j, none⟩ = some (.int .i64 zs[j])
theorem RdI.below {B : Nat} {w w' : World} {a : Option Addr} {zs : List Int} (h : RdI w a zs) (hb : Below B w w') (hB : w.heap.size ≤ B) : RdI w' a zs := fun hp => by
  obtain ⟨b, o, ha, hc⟩ := h hp
  refine ⟨b, o, ha, fun j hj => ?_⟩
  have hlt : b < w.heap.size := block_lt_of_cell (hc j hj)
  rw [hb.cell (p := ⟨b, o + j, none⟩) (Nat.lt_of_lt_of_le hlt hB)]
  exact hc j hj

end Go.Proofs.Ytkhejjddmbegaaa.Dk

/-
  The law's written: a disk of 64 blocks, groups appended as many as there is room for.
-/
namespace Go.Proofs.Ytkhejjddmbegaaa.S
open Go.RowKit
open Go.Proofs.Ytkhejjddmbegaaa.Dk (Box RdI)
open Go.Proofs.Ytkhejjddmbegaaa.J (JD JTo ics grow owns_kept upd_below pk pk_in pick_eq)

theorem info50 : (Try.prog.info? 50).map (fun i => (i.zero, i.size, i.bytes)) = some (some (.slice none 0 0), 1, 24) := by kernel_rfl

set_option maxRecDepth 100000 in
theorem written_at (w : World) (e t : Nat) (a : Option Addr) (n cap : Nat) (zs : List Int) (hl : zs.length = n) (hz : RdI w a zs) (he : 1 ≤ e ∧ e ≤ 9) (ht : t < 16) :
    Calls Try.prog 6 #[.int .i64 (e : Int), .int .i64 (t : Int), .slice a n cap] w fun r u => ∃ g dg v qs, r = .returned (.tuple #[.pointer (some ⟨dg, 0, none⟩), v, .bool true]) ∧ Sw w g dg e t (st9 e t zs (min n 12)) v qs u := by
  obtain ⟨i0, hi, hz0, hz1, hz2⟩ := info_parts info50
  have HZ : Hid (RdI w a zs) := hz
  have HL : Hid (zs.length = n) := hl
  clear hz hl
  go_enter Try.func6, Try.ntmps6
  go_wp2_with fail
  refine (Dk.new_at 64 w (by decide) (by decide)).mono ?_
  rintro r w1 ⟨dg, rfl, hN⟩
  go_wp2_with fail
  refine (La.ref_good 64 _ (by decide) (by decide)).mono ?_
  rintro r w2 ⟨rfl, b2⟩
  unfold La.layA
  go_wp2_with fail
  obtain ⟨F, ⟨gd, cd, vu, ps, hl⟩, hF, b1⟩ := hN
  have B2 := b1.trans (b2.mono b1.size)
  have B3 := b2.alloc b2.size (.cells #[.int .i64 64, .int .i64 2, .int .i64 (La.lgs 64 : Int), .int .i64 (2 + (La.lgs 64 : Int)), .int .i64 (3 + (La.lgs 64 : Int)), .int .i64 4, .int .i64 (3 + (La.lgs 64 : Int) + 4)] 41)
  have hl' := hl.kept (fun i hi => B3.block i (hl.flt i hi)) B3.size
  have hL : La.lgs 64 = 16 := by decide
  have c := J.open_good hl' (by show 64 ≤ 64; decide) (by show 64 ≤ 512; decide) (e : Int) 1 (t : Int) (by omega) (by decide) (by show 0 ≤ (t : Int) ∧ (t : Int) ≤ (La.lgs 64 : Int) - 1; rw [hL]; omega)
  refine Calls.mono c ?_
  rintro r w3 ⟨g, hj, rfl, hbx, b3⟩
  have B4 := B2.trans ((((Below.refl w2.heap.size w2).alloc (Nat.le_refl _) _).trans (b3.mono (by simp))).mono B2.size)
  have hlj : Dk.Lies w3 dg _ F gd cd vu ps := hl'.kept (fun i hi => b3.block i (hl'.flt i hi)) b3.size
  have HS : Hid (Sw w g dg e t (st9 e t zs 0) (.slice none 0 0) [] w3) := by
    refine Sw.start ⟨gd, cd, vu, ps, hlj⟩ hF hbx (fun hf => ?_) ?_ B4 hlj.flt
    · have h1 := hl'.flt g hf
      omega
    · have := B2.size
      have h1 : w2.heap.size + 1 ≤ g := by simpa using hj
      omega
  clear hj hbx b3 hlj c hl' B3 B2 b1 b2 hl hF B4 hL
  go_wp2_with fail
  go_loopw [15, 16] (fun v i u => ∃ (k : Nat) (qs : List G9), k ≤ n ∧ k ≤ 12 ∧ i = .int .i64 (k : Int) ∧ Sw w g dg e t (st9 e t zs k) v qs u) (fun _ i _ => 12 - (intOf i).toNat)
  case atStart => exact ⟨0, [], Nat.zero_le _, by decide, rfl, HS.out⟩
  case round =>
    obtain ⟨k, qs, hk, hk12, rfl, hS⟩ := hrel
    obtain ⟨av, cv, rfl⟩ := Rc.owns_shape hS.row
    have S0 : Hid (Sw w g dg e t (st9 e t zs k) (.slice av qs.length cv) qs wr) := hS
    clear hS
    by_cases hlt : k < n ∧ k < 12
    · obtain ⟨hkn, hk2⟩ := hlt
      have hkl : k < zs.length := by rw [HL.out]; exact hkn
      obtain ⟨b, o, rfl, hc⟩ := HZ.out (by omega)
      have hck := hc k hkl
      have hb : b < w.heap.size := block_lt_of_cell hck
      have B : Below w.heap.size w wr := S0.out.bel
      have hst : Hid (st9 e t zs (k + 1) = step9 e t (st9 e t zs k) zs[k]) := st9_succ e t zs k hkl
      have hok : Hid (Ok9 (st9 e t zs k) k) := ok9 e t zs k (by omega)
      generalize (zs[k]'hkl) = z at hck hst
      have HC : Hid (∀ u, Below w.heap.size w u → u.cell? ⟨b, o + k, none⟩ = some (.int .i64 z)) := fun u bu => (bu.cell (p := ⟨b, o + k, none⟩) hb).trans hck
      have cP := fun u => pick_eq z 5 5 u rfl (by decide) (by decide)
      have hp := pk_in z 5 (by decide)
      have hN : Hid (((n9 z : Nat) : Int) = 1 + pk z 5) := by
        have : ((n9 z : Nat) : Int) = 1 + pk z 5 := by unfold n9; omega
        exact this
      have hn9 := n9_in z
      obtain ⟨N, hNe⟩ : ∃ N, N = n9 z := ⟨_, rfl⟩
      have cI := fun u => images9_imf u N z (by omega)
      rw [hNe, hN.out, ← hNe] at cI
      have HNe : Hid (N = n9 z) := hNe
      generalize pk z 5 = p at cP hp cI hN
      clear hc hck hkl hNe hN hn9
      have hp1 : 0 ≤ p := hp.1
      have hp2 : p < 5 := hp.2
      clear hp
      have hwr : IntKind.i64.wrap (1 + p) = 1 + p := by rw [IntKind.wrap_i64]; omega
      rw [← hwr] at cI
      clear hwr
      go_upto_region 10 with fail
      go_region_held3 (fun u => u.cell? ⟨b, o + k, none⟩ = some (.int .i64 z))
        (first | with_reducible exact HC.out _ B.drew | with_reducible exact HC.out _ BW)
        (first
          | (go_at_call 5; refine Calls.mono (cP _) ?_; rintro r W0 ⟨rfl, rfl⟩)
          | (go_at_call 20; refine Calls.mono (cI wr.drew) ?_; rintro r W ⟨a', c', rfl, hIm, bW⟩; have BW : Below w.heap.size w W := B.drew.trans (bW.mono B.drew.size)))
      have hIq : SwI w g dg e t (st9 e t zs k) (.slice av qs.length cv) qs ⟨N, z, a', c'⟩ W := (S0.out.below (Below.refl wr.heap.size wr).drew).img hIm bW
      have hql : qs.length ≤ 12 := by
        have h1 := congrArg List.length S0.out.same
        have h2 := hok.out.2.2.2.2.2.1
        simp at h1
        omega
      clear hIm bW BW HC cP cI B hp1 hp2
      by_cases hr : (st9 e t zs k).U + (n9 z + 1) ≤ 16
      · have cA := Sw.append_ok hIq hok.out hk12 he ht HNe.out hr
        have HI : Hid (N = n9 z) := HNe.out
        clear hIq hr
        go_wp2_with fail
        refine Calls.mono cA ?_
        rintro r u2 ⟨⟨x, rfl⟩, hA⟩
        have al := (Below.refl u2.heap.size u2).alloc (Nat.le_refl _) (.cells #[.slice a' N c'] 50)
        have hA2 : Hid (SwA w g dg e t (step9 e t (st9 e t zs k) z) (.slice av qs.length cv) qs ⟨N, z, a', c'⟩ (u2.alloc (.cells #[.slice a' N c'] 50))) := hA.below al
        have own1 := hA2.out.row
        have hz4 := hA2.out.bel.size
        have bN := Dk.Box.new u2 #[.slice a' N c'] 50
        have hcN : ∀ j u, ([.slice a' N c'] : List Value)[j]? = some u → (u2.alloc (.cells #[.slice a' N c'] 50)).cell? ((⟨u2.heap.size, 0, none⟩ : Addr).add j) = some u := fun j u hj => by
          rw [Addr.add_lit, Nat.zero_add, bN.cell j]
          simpa using hj
        clear hA al cA bN
        go_wp2_with (at_builtin; refine wpList_append_lies _ rfl _ _ 26 rfl w.heap.size 50 i0 (.slice none 0 0) 1 24 Try.underlying26 hi hz0 hz1 hz2 rfl (by decide) _ qs.length _ rfl own1 ⟨u2.heap.size, 0, none⟩ 1 1 [.slice a' N c'] rfl rfl hcN ?c2 (by decide) ?c3 ?c4 hz4 (u2.heap.size + 1) (by simp) ?_)
        case c2 => intro u hu; simp at hu; subst hu; rfl
        case c3 => unfold maxLen; omega
        case c4 => omega
        intro g4 cap4 w4 own4 hg4 hw4 _
        have hS4 : Sw w g dg e t (st9 e t zs (k + 1)) (.slice (some ⟨g4, 0, none⟩) (qs.length + 1) cap4) (qs ++ [⟨N, z, a', c'⟩]) w4 := by
          rw [hst.out]
          refine hA2.out.list own4 hg4 (fun k hk => ?_)
          rcases hw4 with h | h
          · left
            rw [h]
            simpa [Value.ownBlock] using hk
          · right
            have : g4 = k := by simpa [Value.ownBlock] using hk
            simp
            omega
        clear own1 hcN hg4 own4 hw4 hA2
        go_wp2_with fail
        go_roundw
        case rel => exact ⟨k + 1, _, by omega, by omega, by push_cast; rfl, hS4⟩
        case measure => simp [intOf]; omega
      · have cA := Sw.append_full hIq hok.out hk12 he ht HNe.out hr
        clear hIq hr
        go_wp2_with fail
        refine Calls.mono cA ?_
        rintro r u2 ⟨rfl, hA⟩
        have hS4 : Sw w g dg e t (st9 e t zs (k + 1)) (.slice av qs.length cv) qs u2 := by
          rw [hst.out]
          exact hA
        clear hA cA
        go_wp2_with fail
        go_roundw
        case rel => exact ⟨k + 1, _, by omega, by omega, by push_cast; rfl, hS4⟩
        case measure => simp [intOf]; omega
    · have HK : Hid (k = min n 12) := (by omega : k = min n 12)
      by_cases hkn : k < n
      · have hk2 : ¬ k < 12 := by omega
        go_wp2_with fail
        exact bodyPost_ret (v := .tuple #[.pointer (some ⟨dg, 0, none⟩), .slice av qs.length cv, .bool true]) (by simp [results, Try.results6, go_sem]) rfl ⟨g, dg, _, qs, rfl, by rw [← HK.out]; exact S0.out⟩
      · go_wp2_with fail
        exact bodyPost_ret (v := .tuple #[.pointer (some ⟨dg, 0, none⟩), .slice av qs.length cv, .bool true]) (by simp [results, Try.results6, go_sem]) rfl ⟨g, dg, _, qs, rfl, by rw [← HK.out]; exact S0.out⟩
end Go.Proofs.Ytkhejjddmbegaaa.S

/-
  The law's same: groups are these images', from number 1 on.
-/
namespace Go.Proofs.Ytkhejjddmbegaaa.S
open Go.RowKit
open Go.Proofs.Ytkhejjddmbegaaa.Dk (Box)

/-- groups of an epoch, from number 1 on -/
def GsI (w : World) (a : Option Addr) (E : Int) (ls : List (List (Int × List UInt8))) : Prop :=
  0 < ls.length → ∃ b o, a = some ⟨b, o, none⟩ ∧ ∀ j (h : j < ls.length), ∃ al cl, w.cell? ⟨b, o + j * 3, none⟩ = some (.int .i64 E) ∧ w.cell? ⟨b, o + j * 3 + 1, none⟩ = some (.int .i64 (j + 1 : Nat)) ∧ w.cell? ⟨b, o + j * 3 + 2, none⟩ = some (.slice al ls[j].length cl) ∧ Rc.Imgs w al ls[j]
/-- lists of images -/
def AllI (w : World) (a : Option Addr) (ls : List (List (Int × List UInt8))) : Prop :=
  0 < ls.length → ∃ b o, a = some ⟨b, o, none⟩ ∧ ∀ j (h : j < ls.length), ∃ al cl, w.cell? ⟨b, o + j, none⟩ = some (.slice al ls[j].length cl) ∧ Rc.Imgs w al ls[j]

set_option maxRecDepth 100000 in
theorem same_at (w : World) (a1 a2 : Option Addr) (n c1 c2 : Nat) (E : Int) (ls : List (List (Int × List UInt8))) (hl : ls.length = n) (hn : n ≤ 1000) (hm : ∀ l ∈ ls, l.length ≤ 32) (h1 : GsI w a1 E ls) (h2 : AllI w a2 ls) :
    Calls Try.prog 14 #[.slice a1 n c1, .slice a2 n c2, .int .i64 E] w fun r w' => r = .returned (.bool true) ∧ Below w.heap.size w w' := by
  have HL : Hid (ls.length = n) := hl
  have H1 : Hid (GsI w a1 E ls) := h1
  have H2 : Hid (AllI w a2 ls) := h2
  have HM : Hid (∀ l ∈ ls, l.length ≤ 32) := hm
  clear hl h1 h2 hm
  go_enter Try.func14, Try.ntmps14
  go_wp2_with fail
  go_loopw [7] (fun i u => ∃ (k : Nat), k ≤ n ∧ i = .int .i64 (k : Int) ∧ Below w.heap.size w u) (fun i _ => n - (intOf i).toNat)
  case atStart => exact ⟨0, Nat.zero_le _, rfl, Below.refl _ _⟩
  case round =>
    obtain ⟨k, hk, rfl, B⟩ := hrel
    by_cases hkn : k < n
    · have hkl : k < ls.length := by rw [HL.out]; exact hkn
      obtain ⟨b1, o1, rfl, g1⟩ := H1.out (by omega)
      obtain ⟨b2, o2, rfl, g2⟩ := H2.out (by omega)
      obtain ⟨al, cl, x0, x1, x2, i1⟩ := g1 k hkl
      obtain ⟨am, cm, y0, i2⟩ := g2 k hkl
      have hm := HM.out _ (List.getElem_mem hkl)
      generalize (ls[k]'hkl) = IM at x2 i1 y0 i2 hm
      have l1 : b1 < w.heap.size := block_lt_of_cell x0
      have l2 : b2 < w.heap.size := block_lt_of_cell y0
      obtain ⟨m, hme⟩ : ∃ m, m = IM.length := ⟨_, rfl⟩
      rw [← hme] at x2 y0 hm
      push_cast at x1
      have HS : Hid (∀ u, Below w.heap.size w u → u.cell? ⟨b1, o1 + k * 3, none⟩ = some (.int .i64 E) ∧ u.cell? ⟨b1, o1 + k * 3 + 1, none⟩ = some (.int .i64 ((k : Int) + 1)) ∧ u.cell? ⟨b1, o1 + k * 3 + 2, none⟩ = some (.slice al m cl) ∧ u.cell? ⟨b2, o2 + k, none⟩ = some (.slice am m cm)) := fun u bu =>
        ⟨(bu.cell (p := ⟨b1, o1 + k * 3, none⟩) l1).trans x0, (bu.cell (p := ⟨b1, o1 + k * 3 + 1, none⟩) l1).trans x1, (bu.cell (p := ⟨b1, o1 + k * 3 + 2, none⟩) l1).trans x2, (bu.cell (p := ⟨b2, o2 + k, none⟩) l2).trans y0⟩
      have cS := Rc.sameImages_at al am m cl m cm IM IM wr.drew hme.symm hme.symm (by omega) (i1.below B.drew) (i2.below B.drew)
      rw [decide_eq_true rfl] at cS
      clear x0 x1 x2 y0 i1 i2 l1 l2 g1 g2 hme hm hkl
      go_upto_region 6 with fail
      have hwk : IntKind.i64.wrap ((k : Int) + 1) = (k : Int) + 1 := by rw [IntKind.wrap_i64]; omega
      go_region_held3 (fun u => u.cell? ⟨b1, o1 + k * 3, none⟩ = some (.int .i64 E) ∧ u.cell? ⟨b1, o1 + k * 3 + 1, none⟩ = some (.int .i64 ((k : Int) + 1)) ∧ u.cell? ⟨b1, o1 + k * 3 + 2, none⟩ = some (.slice al m cl) ∧ u.cell? ⟨b2, o2 + k, none⟩ = some (.slice am m cm))
        (first | with_reducible exact HS.out _ B.drew | with_reducible exact HS.out _ B7)
        (first
          | (go_at_call 33; refine Calls.mono cS ?_; rintro r u7 ⟨rfl, hw7⟩; have B7 : Below w.heap.size w u7 := B.drew.trans (hw7.mono B.drew.size)))
      clear cS HS hw7 hwk
      go_wp2_with fail
      go_roundw
      case rel => exact ⟨k + 1, by omega, by push_cast; rfl, B7⟩
      case measure => simp [intOf]; omega
    · have hke : k = n := by omega
      subst hke
      go_wp2_with fail
      go_ret
      exact ⟨rfl, B⟩
end Go.Proofs.Ytkhejjddmbegaaa.S

/-
  Groups that are told, as the law's same takes them; what the law's disk tells.
-/
namespace Go.Proofs.Ytkhejjddmbegaaa.S
open Go.RowKit
open Go.Proofs.Ytkhejjddmbegaaa.Dk (Box)

theorem gsC_at (E : Nat) (xs : List Gx) (i : Nat) (h : i < xs.length) : (gsC E xs)[i * 3]? = some (.int .i64 (E : Int)) ∧ (gsC E xs)[i * 3 + 1]? = some (.int .i64 (xs[i].s : Int)) ∧ (gsC E xs)[i * 3 + 2]? = some (.slice xs[i].a xs[i].m xs[i].c) := by
  induction xs generalizing i with
  | nil => simp at h
  | cons p ps ih =>
    cases i with
    | zero => exact ⟨rfl, rfl, rfl⟩
    | succ i =>
      obtain ⟨u, v, z⟩ := ih i (by simpa using h)
      have e1 : (i + 1) * 3 = i * 3 + 1 + 1 + 1 := by omega
      simp only [gsC, List.flatMap_cons, e1, List.cons_append, List.nil_append, List.getElem?_cons_succ, List.getElem_cons_succ]
      exact ⟨u, v, z⟩
/-- groups as they are told -/
theorem gsI_of {D : Dk.DS} {t E B c : Nat} {a : Option Addr} {xs : List Gx} {w : World} (hr : Run D t E 0 1 xs) (ho : w.ownsRow B 52 3 (.slice a xs.length c) xs.length (gsC E xs)) (hg : ∀ x ∈ xs, GA D t E x w) : GsI w a (E : Int) (xs.map fun x => gimgs D t x.b) := fun h0 => by
  have hl : 0 < xs.length := by simpa using h0
  obtain ⟨g, rfl, _, _, hc⟩ := Rc.owns_cells ho hl
  refine ⟨g, 0, rfl, fun j hj => ?_⟩
  have hjx : j < xs.length := by simpa using hj
  obtain ⟨k0, k1, k2⟩ := gsC_at E xs j hjx
  have hm := List.getElem_mem hjx
  obtain ⟨_, g2, g3, g4, g5⟩ := hg _ hm
  have hs := hr.seq j hjx
  have hn := (hr.cnt _ hm).1
  have hps : (xs[j]).ps.length = (xs[j]).m := by
    have := congrArg List.length g5
    rw [List.length_map] at this
    rw [this, hn]
  have hi := Rc.imgs_of g3 g4 hps
  rw [g5] at hi
  rw [List.getElem_map]
  refine ⟨(xs[j]).a, (xs[j]).c, ?_, ?_, ?_, hi⟩
  · rw [Nat.zero_add, hc _ (by omega), k0]
  · rw [Nat.zero_add, hc _ (by omega), k1, hs, Nat.add_comm 1 j]
  · rw [Nat.zero_add, hc _ (by omega), k2, ← hn]
theorem tot_imgs {D : Dk.DS} {t E : Nat} {xs : List Gx} {b s : Nat} (hr : Run D t E b s xs) : tot xs = ((xs.map fun x => gimgs D t x.b).map fun is => is.length + 1).sum := by
  unfold tot
  rw [List.map_map]
  congr 1
  refine List.map_congr_left fun x hx => ?_
  show x.m + 1 = (gimgs D t x.b).length + 1
  rw [(hr.cnt x hx).1]
section
variable {w u u' : World} {g dg e t : Nat} {s : W9} {v : Value} {qs : List G9}
theorem Sw.iss (h : Sw w g dg e t s v qs u) : iss9 s.gs = qs.map fun q => im9 q.z q.n := by rw [← h.same, iss9, List.map_map]; rfl
theorem Sw.allI {a : Option Addr} {n c : Nat} (h : Sw w g dg e t s (.slice a n c) qs u) : AllI u a (iss9 s.gs) := fun h0 => by
  obtain ⟨F, _, im, _, _⟩ := h.ex
  have hi := h.iss
  have hl : 0 < qs.length := by rw [hi] at h0; simpa using h0
  obtain ⟨b, rfl, _, _, hc⟩ := Rc.owns_cells h.row hl
  refine ⟨b, 0, rfl, fun j hj => ?_⟩
  have hjq : j < qs.length := by rw [hi] at hj; simpa using hj
  have e : (iss9 s.gs)[j] = im9 (qs[j]).z (qs[j]).n := by simp only [hi, List.getElem_map]
  rw [e, im9_length]
  refine ⟨(qs[j]).al, (qs[j]).cl, ?_, (im _ (List.getElem_mem hjq)).imgs⟩
  rw [Nat.zero_add, hc _ (by omega)]
  simp [alC, hjq]
theorem Sw.disk (h : Sw w g dg e t s v qs u) : ∃ F, Dk.IsDisk u dg s.D F ∧ ∀ i, F i → w.heap.size ≤ i := by
  obtain ⟨F, ⟨⟨vs, Fd, _, hd, _, _, _, h6⟩, _⟩, _, _, hF⟩ := h.ex
  exact ⟨Fd, hd, fun i hi => hF i (h6 i hi)⟩
theorem Sw.len (h : Sw w g dg e t s v qs u) : qs.length = s.gs.length := by rw [← h.same, List.length_map]
end
theorem AllI.take {w : World} {a : Option Addr} {ls : List (List (Int × List UInt8))} (h : AllI w a ls) (k : Nat) : AllI w a (ls.take k) := fun h0 => by
  have hl : 0 < ls.length := by simp at h0; omega
  obtain ⟨b, o, rfl, hc⟩ := h hl
  refine ⟨b, o, rfl, fun j hj => ?_⟩
  have hj2 : j < ls.length := by simp at hj; omega
  rw [List.getElem_take]
  exact hc j hj2
theorem im9_all (gs : List (Nat × Int)) (h : ∀ q ∈ gs, 1 ≤ q.1 ∧ q.1 ≤ 5) : ∀ l ∈ iss9 gs, l.length ≤ 32 := fun l hl => by
  obtain ⟨q, hq, rfl⟩ := List.mem_map.1 hl
  have := h q hq
  rw [im9_length]
  omega
/-- what the law's own disk tells -/
theorem st9_tells {e t : Nat} {zs : List Int} {k : Nat} (hk : k ≤ zs.length) (hk12 : k ≤ 12) (he : 1 ≤ e ∧ e ≤ 9) (ht : t < 16) {xs : List Gx} (hr : Run (st9 e t zs k).D t e 0 1 xs) :
    xs.map (fun x => gimgs (st9 e t zs k).D t x.b) = iss9 (st9 e t zs k).gs ∧ xs.length = (st9 e t zs k).gs.length ∧ tot xs = (st9 e t zs k).U := by
  obtain ⟨h1, h2, h3⟩ := st9_uf e t ht zs k hk
  have hok := st9_ok e t he zs k hk hk12
  have h9 := ok9 e t zs k hk
  generalize st9 e t zs k = s at h1 h2 h3 hok h9 hr ⊢
  have hL : (blks e 1 (iss9 s.gs)).length ≤ 16 := by rw [← h2]; exact h9.2.2.2.2.1
  rw [h2] at h3
  have hm := mixd_stand h3 hL (noE_new (t := t) (E := e) h1 (by omega) (by omega))
  obtain ⟨q1, q2⟩ := run_mixd hok hm hr
  have q3 := run_whole hok (b := 0) (fun i h => by rw [Nat.zero_add]; exact rg_in h3 hL i h) (by omega) hr
  have el : (iss9 s.gs).length = s.gs.length := by simp [iss9]
  have q4 : xs.map (fun x => gimgs s.D t x.b) = iss9 s.gs := by rw [q2, List.take_of_length_le (by omega)]
  refine ⟨q4, by omega, ?_⟩
  rw [tot_imgs hr, q4, h2, blks_length]

theorem st14 : (st9 1 14 [0, 1] 2).gs = [(1, 0), (2, 1)] ∧ (st9 1 14 [0, 1] 2).U = 5 := by
  have h0 : n9 0 = 1 := by decide
  have h1 : n9 1 = 2 := by decide
  simp [st9, step9, h0, h1]

/-- a row of numbers that was laid just now -/
theorem rdI_new (w : World) (zs : List Int) : Dk.RdI (w.alloc (.cells (zs.map fun z => Value.int .i64 z).toArray 3)) (some ⟨w.heap.size, 0, none⟩) zs := fun _ => by
  refine ⟨w.heap.size, 0, rfl, fun j hj => ?_⟩
  rw [Nat.zero_add, (Dk.Box.new w (zs.map fun z => Value.int .i64 z).toArray 3).cell j]
  simp [hj]
/-- what Groups answers, of the law's own disk -/
def Tld (w : World) (E : Nat) (iss : List (List (Int × List UInt8))) (at_ : Nat) (r : Ending) (w' : World) : Prop :=
  ∃ a c, r = .returned (.tuple #[.slice a iss.length c, .int .i64 (at_ : Int), .int .i64 0]) ∧ GsI w' a (E : Int) iss ∧ Below w.heap.size w w'
theorem Sw.tells {w0 w : World} {g dg e t : Nat} {zs : List Int} {k : Nat} {v : Value} {qs : List G9} (h : Sw w0 g dg e t (st9 e t zs k) v qs w) (hk : k ≤ zs.length) (hk12 : k ≤ 12) (he : 1 ≤ e ∧ e ≤ 9) (ht : t < 16) :
    Calls Try.prog 12 #[.pointer (some ⟨dg, 0, none⟩), .agg lay, .agg #[.int .i64 64, .int .i64 (e : Int), .int .i64 1, .int .i64 (t : Int)]] w (Tld w e (iss9 (st9 e t zs k).gs) ((t + (st9 e t zs k).U) % 16)) := by
  obtain ⟨F, hd, _⟩ := h.disk
  obtain ⟨h1, h2, h3, _⟩ := ok9 e t zs k hk
  refine (groups_at hd h2 h1.1 (by omega) t e 1 ht (by omega) (by decide)).mono ?_
  rintro r w' ⟨xs, a, c, rfl, hr, ho, hg, b⟩
  obtain ⟨t1, t2, t3⟩ := st9_tells hk hk12 he ht hr
  have hG := gsI_of hr ho hg
  rw [t1] at hG
  have el : (iss9 (st9 e t zs k).gs).length = xs.length := by rw [t2]; simp [iss9]
  refine ⟨a, c, ?_, hG, b⟩
  rw [el, t3]

set_option maxRecDepth 100000 in
theorem awake_at (w : World) : Calls Try.prog 15 #[] w fun r w' => r = .returned (.bool true) ∧ Below w.heap.size w w' := by
  have al := (Below.refl w.heap.size w).alloc (Nat.le_refl _) (.cells #[.int .i64 0, .int .i64 1] 3)
  have cW := written_at (w.alloc (.cells #[.int .i64 0, .int .i64 1] 3)) 1 14 (some ⟨w.heap.size, 0, none⟩) 2 2 [0, 1] rfl (rdI_new w [0, 1]) (by decide) (by decide)
  go_enter Try.func15, Try.ntmps15
  go_wp2_with fail
  refine Calls.mono cW ?_
  rintro r u ⟨g, dg, v, qs, rfl, hS⟩
  rw [show min 2 12 = 2 from rfl] at hS
  obtain ⟨av, cv, rfl⟩ := Rc.owns_shape hS.row
  have hq : qs.length = 2 := by rw [hS.len, st14.1]; rfl
  rw [hq] at hS ⊢
  have B1 := al.trans (hS.bel.mono al.size)
  have HS : Hid (Sw (w.alloc (.cells #[.int .i64 0, .int .i64 1] 3)) g dg 1 14 (st9 1 14 [0, 1] 2) (.slice av 2 cv) qs u) := hS
  clear hS al hq cW
  have cL := layout64_at u
  unfold lay at cL
  go_wp2_with fail
  refine Calls.mono cL ?_
  rintro r u1 ⟨rfl, b1⟩
  have hS1 := HS.out.below b1
  have cG := hS1.tells (by decide) (by decide) (by decide) (by decide)
  unfold lay at cG
  have B2 := B1.trans (b1.mono B1.size)
  rw [st14.1, st14.2] at cG
  clear cL
  go_wp2_with fail
  refine Calls.mono cG ?_
  rintro r u2 ⟨a, c, rfl, hG, b2⟩
  have hA := (hS1.below b2).allI
  rw [st14.1] at hA
  have cS := same_at u2 a av 2 c cv 1 (iss9 [(1, 0), (2, 1)]) rfl (by decide) (im9_all _ (by decide)) hG hA
  have B3 := B2.trans (b2.mono B2.size)
  clear hG hA hS1 cG b1 b2 B1 B2
  rw [show (iss9 [(1, 0), (2, 1)]).length = 2 from rfl]
  go_wp2_with fail
  refine Calls.mono cS ?_
  rintro r u3 ⟨rfl, b3⟩
  go_wp2_with fail
  go_ret
  exact ⟨rfl, B3.trans (b3.mono B3.size)⟩
end Go.Proofs.Ytkhejjddmbegaaa.S

/-
  What the arguments are, as they come in.
-/
namespace Go.Proofs.Ytkhejjddmbegaaa
open Go.ChangeShapes Go.WideShapes Go.ChangeAt Go.RowKit Go.Deep

theorem cells3 : Try.prog.cellsOf 3 = 1 := by kernel_rfl
theorem cells32 : Try.prog.cellsOf 32 = 1 := by kernel_rfl
theorem cells44 : Try.prog.cellsOf 44 = 4 := by kernel_rfl
theorem bytes5g : Try.prog.bytesOf 5 = 1 := by kernel_rfl
theorem list4 {α : Type} {l : List α} (h : l.length = 4) : ∃ a b c d, l = [a, b, c, d] := by
  match l, h with
  | [a, b, c, d], _ => exact ⟨a, b, c, d, rfl⟩
theorem choose_below {α : Type} {P : Nat → α → Prop} {n : Nat} (z : α) (h : ∀ i, i < n → ∃ x, P i x) : ∃ f : Nat → α, ∀ i, i < n → P i (f i) := by
  classical
  refine ⟨fun i => if hi : i < n then Classical.choose (h i hi) else z, fun i hi => ?_⟩
  simp only [dif_pos hi]
  exact Classical.choose_spec (h i hi)
theorem wsum {H : Type} {P : Program} {e : TypeId} : ∀ {ds : List (DataW H)} {j : Nat} {d : DataW H}, ds[j]? = some d → ∀ n ∈ d.weights P e, n ∈ DataW.weightsAll P e ds
  | d0 :: ds, 0, d, hd, n, hn => by
    simp only [List.getElem?_cons_zero, Option.some.injEq] at hd
    subst hd
    simp only [DataW.weightsAll, List.mem_append]
    exact Or.inl hn
  | d0 :: ds, j + 1, d, hd, n, hn => by
    simp only [List.getElem?_cons_succ] at hd
    simp only [DataW.weightsAll, List.mem_append]
    exact Or.inr (wsum hd n hn)
  | [], _, _, hd, _, _ => by simp at hd
section
variable {H : Type} {enc : TypeId × Value → H} {w : World} {base : Nat} {held : Bool}
theorem open_bytes {fuel : Nat} {cs : List Value} {x : DataW H × List MemPlace} (h : DataW.trod enc Try.prog w base (fun _ => true) held fuel 32 cs = some x) :
    ∃ (a : Option Addr) (n cap : Nat) (xs : List UInt8), cs = [.slice a n cap] ∧ xs.length = n ∧ Rc.Rd w a xs ∧ n ≤ cap ∧ cap ≤ 9223372036854775807 ∧ (a = none → cap = 0) := by
  rcases open_ints Try.underlying32 Try.underlying5 (by kernel_rfl) h with ⟨rfl, _⟩ | ⟨x, l, c, zs, rfl, _, hl, hm, hz, _, hcell, hwz⟩
  · exact ⟨none, 0, 0, [], rfl, rfl, Rc.Rd.nil _ _, by omega, by omega, fun _ => rfl⟩
  · obtain ⟨xs, hxs, hrd⟩ := Rc.bytes_of_ints hl (by simpa using hz) hcell hwz
    exact ⟨some x, l, c, xs, rfl, hxs, hrd, hl, by unfold maxLen at hm; omega, fun h => by simp at h⟩

theorem bytes_weigh {fuel : Nat} {a : Option Addr} {n cap : Nat} {x : DataW H × List MemPlace} (h : DataW.trod enc Try.prog w base (fun _ => true) held fuel 32 [.slice a n cap] = some x) (hw : ∀ m ∈ x.1.weights Try.prog 32, m ≤ reachBytes) : n ≤ 140737488351232 := by
  rcases open_slice Try.underlying32 h with ⟨h1, _⟩ | ⟨a', len, cap', m, n', D, Pl, h1, _, _, _, _, rfl, _⟩
  · simp at h1
    omega
  · simp at h1
    obtain ⟨rfl, rfl, rfl⟩ := h1
    have := hw ((n + (m - n)) * 1) (by simp [DataW.weights, Try.underlying32, bytes5g])
    unfold reachBytes at this
    omega
theorem open_lsts_w {fuel : Nat} {cs : List Value} {x : DataW H × List MemPlace} (h : DataW.trod enc Try.prog w base (fun _ => true) held fuel 48 cs = some x) (hw : ∀ m ∈ x.1.weights Try.prog 48, m ≤ reachBytes) :
    ∃ (a : Option Addr) (n cap : Nat) (ls : List (List UInt8)), cs = [.slice a n cap] ∧ ls.length = n ∧ Rc.Lsts w a ls ∧ ∀ x ∈ ls, x.length ≤ 140737488351232 := by
  rcases open_slice Try.underlying48 h with ⟨rfl, _⟩ | ⟨a, len, cap, m, n, D, Pl, rfl, hb, hl, hm, hmm, rfl, hx⟩
  · exact ⟨none, 0, 0, [], rfl, rfl, fun h => by simp at h, fun i hi => by cases hi⟩
  have hlm : len ≤ m := by rw [hmm]; split <;> omega
  have each : ∀ i, i < len → ∃ z : List UInt8, z.length ≤ 140737488351232 ∧ ∃ x c, w.cell? (a.add i) = some (.slice x z.length c) ∧ z.length ≤ c ∧ c ≤ 9223372036854775807 ∧ (x = none → c = 0) ∧ Rc.Rd w x z := by
    intro i hi
    obtain ⟨cs', h1, h2⟩ := hx i (by omega)
    rw [cells32, Nat.mul_one] at h1
    obtain ⟨ad, nn, cp, ys, rfl, hy, hr, q1, q2, q3⟩ := open_bytes h2
    subst hy
    have hwt := bytes_weigh h2 (fun k hk => hw k (by
      simp only [DataW.weights, Try.underlying48]
      refine List.mem_cons_of_mem _ (List.mem_append.2 (Or.inl (wsum (j := i) (d := D i) (by simp [hi]) k hk)))))
    obtain ⟨_, hlen, hcell⟩ := World.cells?_some h1
    have e0 := hcell 0 (by omega)
    rw [add_add] at e0
    exact ⟨ys, hwt, ad, cp, by simpa using e0, q1, q2, q3, hr⟩
  obtain ⟨f, hf⟩ := choose_below [] each
  refine ⟨some a, len, cap, (List.range len).map f, rfl, by simp, fun hp => ?_, fun z hz => ?_⟩
  · have hl0 : 0 < len := by simpa using hp
    obtain ⟨_, x0, c0, h0, _⟩ := hf 0 hl0
    obtain ⟨b, o, sp⟩ := a
    have hsp : sp = none := by simpa [Addr.add] using World.cell?_spot h0
    subst hsp
    refine ⟨b, o, rfl, fun j hj => ?_⟩
    have hj' : j < len := by simpa using hj
    obtain ⟨_, x, c, g1, g2⟩ := hf j hj'
    rw [Addr.add_lit] at g1
    simp only [List.getElem_map, List.getElem_range]
    exact ⟨x, c, g1, g2⟩
  · obtain ⟨i, hi, rfl⟩ := List.mem_map.1 hz
    exact (hf i (by simpa using hi)).1
theorem open_introw {fuel : Nat} {cs : List Value} {x : DataW H × List MemPlace} (h : DataW.trod enc Try.prog w base (fun _ => true) held fuel 22 cs = some x) :
    ∃ (a : Option Addr) (n cap : Nat) (zs : List Int), cs = [.slice a n cap] ∧ zs.length = n ∧ Dk.RdI w a zs ∧ n ≤ 9223372036854775807 := by
  rcases open_ints Try.underlying22 Try.underlying3 (by kernel_rfl) h with ⟨rfl, _⟩ | ⟨⟨b, o, sp⟩, l, c, zs, rfl, _, hl, hm, hz, _, hcell, hwz⟩
  · exact ⟨none, 0, 0, [], rfl, rfl, fun h => by simp at h, by omega⟩
  · simp only [if_true] at hz
    refine ⟨_, l, c, zs.take l, rfl, by simp; omega, fun hp => ?_, by unfold maxLen at hm; omega⟩
    have h0 := hcell 0 (by simp at hp; omega)
    have hsp : sp = none := by simpa [Addr.add] using World.cell?_spot h0
    subst hsp
    refine ⟨b, o, rfl, fun j hj => ?_⟩
    have hj' : j < zs.length := by simp at hj; omega
    have h := hcell j hj'
    rw [Addr.add_lit] at h
    rw [h]
    simp [List.getD, List.getElem?_eq_getElem hj']

theorem open_boolrow {fuel : Nat} {cs : List Value} {x : DataW H × List MemPlace} (h : DataW.trod enc Try.prog w base (fun _ => true) held fuel 23 cs = some x) :
    ∃ (a : Option Addr) (n cap : Nat) (ks : List Bool), cs = [.slice a n cap] ∧ ks.length = n ∧ Dk.RdBl w a ks ∧ n ≤ 9223372036854775807 := by
  rcases open_bools Try.underlying23 Try.underlying4 (by kernel_rfl) h with ⟨rfl, _⟩ | ⟨⟨b, o, sp⟩, l, c, B, rfl, _, hl, hm, _, hcell⟩
  · exact ⟨none, 0, 0, [], rfl, rfl, Dk.RdBl.nil _ _, by omega⟩
  · refine ⟨_, l, c, (List.range l).map B, rfl, by simp, fun hp => ?_, by unfold maxLen at hm; omega⟩
    have h0 := hcell 0 (by simp at hp; omega)
    have hsp : sp = none := by simpa [Addr.add] using World.cell?_spot h0
    subst hsp
    refine ⟨b, o, rfl, fun j hj => ?_⟩
    have hj' : j < l := by simpa using hj
    have h := hcell j (by omega)
    rw [Addr.add_lit] at h
    rw [h]
    simp
theorem open_super {fuel : Nat} {cs : List Value} {x : DataW H × List MemPlace} (h : DataW.trod enc Try.prog w base (fun _ => true) held fuel 44 cs = some x) :
    ∃ b e q t : Int, cs = [.int .i64 b, .int .i64 e, .int .i64 q, .int .i64 t] := by
  obtain ⟨xs, n, _, _, hl, hlen, hf⟩ := DataW.trod_struct Try.underlying44 h
  rw [cells44] at hl
  obtain ⟨v0, v1, v2, v3, rfl⟩ := list4 hl
  obtain ⟨y0, y1, y2, y3, rfl⟩ := list4 (show xs.length = 4 from hlen)
  have g0 := hf 0 _ rfl
  have g1 := hf 1 _ rfl
  have g2 := hf 2 _ rfl
  have g3 := hf 3 _ rfl
  simp [cells3] at g0 g1 g2 g3
  obtain ⟨n0, h0, _⟩ := DataW.trod_int Try.underlying3 g0
  obtain ⟨n1, h1, _⟩ := DataW.trod_int Try.underlying3 g1
  obtain ⟨n2, h2, _⟩ := DataW.trod_int Try.underlying3 g2
  obtain ⟨n3, h3, _⟩ := DataW.trod_int Try.underlying3 g3
  simp at h0 h1 h2 h3
  subst h0 h1 h2 h3
  exact ⟨n0, n1, n2, n3, rfl⟩

end
end Go.Proofs.Ytkhejjddmbegaaa
