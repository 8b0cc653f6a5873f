/-
  SGroups, VFresh, VImg, VAwake, VAwake2: put together.
-/
import Derived.Test.YtnldkpckojhbhaaGreatG8
import Derived.Deep.AppendLies
import Derived.Maps.OwnIn
import Derived.Deep.RegionHeld3
/-
  All groups of a disk.
-/
namespace Go.Proofs.YtnldkpckojhbhaaGreat.S
open Go.RowKit Go.Shelf
open Go.Proofs.YtnldkpckojhbhaaGreat.Dk (Box)
attribute [local go_sem] Oper.semAt_some

theorem info52 : (Tryz.prog.info? 203).map (fun i => (i.zero, i.size, i.bytes)) = some (some (.agg #[.int .i64 0, .int .i64 0, .slice none 0 0]), 3, 40) := by kernel_rfl
theorem tot_le : ∀ (xs : List Gx), (∀ y ∈ xs, y.m + 1 ≤ 16) → tot xs ≤ 16 * xs.length
  | [], _ => by simp [tot]
  | x :: r, h => by
    have h1 := tot_le r (fun y hy => h y (List.mem_cons_of_mem _ hy))
    have h2 := h x List.mem_cons_self
    have e : tot (x :: r) = (x.m + 1) + tot r := by simp [tot]
    rw [e, List.length_cons]
    omega
theorem Run.fits {D : Dk.DS} {t E : Nat} : ∀ {xs : List Gx} {b s : Nat}, Run D t E b s xs → b ≤ 16 → b + tot xs ≤ 16
  | [], _, _, _, hb => by simpa [tot] using hb
  | x :: r, b, s, ⟨⟨_, _, hG, hm⟩, h2⟩, _ => by
    have h1 := hG.2.1
    have h3 := Run.fits h2 (by omega)
    have e : tot (x :: r) = (x.m + 1) + tot r := by simp [tot]
    rw [e, hm]
    omega
theorem kp_below {bt bb : Nat} {A B : World} (b : Below A.heap.size A B) (hbt : bt < A.heap.size) : Kp bt bb A B :=
  ⟨b.size, fun k _ h _ _ => (b.block k (Array.getElem?_eq_some_iff.1 h).1).trans h, fun _ hk => .inl (hk.below b hbt)⟩

set_option maxRecDepth 100000 in
set_option maxHeartbeats 2000000 in
theorem groups_at {w : World} {dg : Nat} {D : Dk.DS} {F : Nat → Prop} (hd : Dk.IsDisk w dg D F) (hnb : D.nb = 64) (hgn : D.gone = false) (hlim : D.uf.length ≤ 1000000) (t E S0 : Nat) (ht : t < 16) (hE : 1 ≤ E ∧ E ≤ 8388608) (hS : 1 ≤ S0 ∧ S0 ≤ 549755813888) :
    Calls Tryz.prog 160 #[.pointer (some ⟨dg, 0, none⟩), .agg lay, .agg #[.int .i64 64, .int .i64 (E : Int), .int .i64 (S0 : Int), .int .i64 (t : Int)]] w fun r w' => ∃ xs a c, r = .returned (.tuple #[.slice a xs.length c, .int .i64 (((t + tot xs) % 16 : Nat) : Int), .int .i64 0]) ∧ Run D t E 0 S0 xs ∧ w'.ownsRow w.heap.size 203 3 (.slice a xs.length c) xs.length (gsC E xs) ∧ (∀ x ∈ xs, GA D t E x w') ∧ Below w.heap.size w w' := by
  obtain ⟨i0, hi0, hz0, hz1, hz2⟩ := info_parts info52
  refine (callsIn_wide (n := 4)).1 ?_
  have e0 : ∃ W5, W5 = (((((w.alloc (.cells #[.int .i64 64, .int .i64 2, .int .i64 16, .int .i64 18, .int .i64 19, .int .i64 4, .int .i64 23] 57)).alloc (.cells #[.int .i64 64, .int .i64 (E : Int), .int .i64 (S0 : Int), .int .i64 (t : Int)] 141)).alloc (.cells #[.slice none 0 0] 161)).alloc (.cells #[.int .i64 0] 3)).alloc (.cells #[.int .i64 0] 26)) := ⟨_, rfl⟩
  obtain ⟨W5, hW5⟩ := e0
  have z1 : (w.alloc (.cells #[.int .i64 64, .int .i64 2, .int .i64 16, .int .i64 18, .int .i64 19, .int .i64 4, .int .i64 23] 57)).heap.size = w.heap.size + 1 := by simp
  have z2 : ((w.alloc (.cells #[.int .i64 64, .int .i64 2, .int .i64 16, .int .i64 18, .int .i64 19, .int .i64 4, .int .i64 23] 57)).alloc (.cells #[.int .i64 64, .int .i64 (E : Int), .int .i64 (S0 : Int), .int .i64 (t : Int)] 141)).heap.size = w.heap.size + 2 := by simp
  have z3 : (((w.alloc (.cells #[.int .i64 64, .int .i64 2, .int .i64 16, .int .i64 18, .int .i64 19, .int .i64 4, .int .i64 23] 57)).alloc (.cells #[.int .i64 64, .int .i64 (E : Int), .int .i64 (S0 : Int), .int .i64 (t : Int)] 141)).alloc (.cells #[.slice none 0 0] 161)).heap.size = w.heap.size + 3 := by simp
  have z4 : ((((w.alloc (.cells #[.int .i64 64, .int .i64 2, .int .i64 16, .int .i64 18, .int .i64 19, .int .i64 4, .int .i64 23] 57)).alloc (.cells #[.int .i64 64, .int .i64 (E : Int), .int .i64 (S0 : Int), .int .i64 (t : Int)] 141)).alloc (.cells #[.slice none 0 0] 161)).alloc (.cells #[.int .i64 0] 3)).heap.size = w.heap.size + 4 := by simp
  have z5 : W5.heap.size = w.heap.size + 5 := by rw [hW5]; simp
  have bx0 : Box W5 w.heap.size #[.int .i64 64, .int .i64 2, .int .i64 16, .int .i64 18, .int .i64 19, .int .i64 4, .int .i64 23] 57 := by rw [hW5]; exact ((((Dk.Box.new w #[.int .i64 64, .int .i64 2, .int .i64 16, .int .i64 18, .int .i64 19, .int .i64 4, .int .i64 23] 57).alloc _).alloc _).alloc _).alloc _
  have bx1 : Box W5 (w.heap.size + 1) #[.int .i64 64, .int .i64 (E : Int), .int .i64 (S0 : Int), .int .i64 (t : Int)] 141 := by rw [hW5, ← z1]; exact (((Dk.Box.new (w.alloc (.cells #[.int .i64 64, .int .i64 2, .int .i64 16, .int .i64 18, .int .i64 19, .int .i64 4, .int .i64 23] 57)) #[.int .i64 64, .int .i64 (E : Int), .int .i64 (S0 : Int), .int .i64 (t : Int)] 141).alloc _).alloc _).alloc _
  have bx2 : Box W5 (w.heap.size + 2) #[.slice none 0 0] 161 := by rw [hW5, ← z2]; exact ((Dk.Box.new ((w.alloc (.cells #[.int .i64 64, .int .i64 2, .int .i64 16, .int .i64 18, .int .i64 19, .int .i64 4, .int .i64 23] 57)).alloc (.cells #[.int .i64 64, .int .i64 (E : Int), .int .i64 (S0 : Int), .int .i64 (t : Int)] 141)) #[.slice none 0 0] 161).alloc _).alloc _
  have bx3 : Box W5 (w.heap.size + 3) #[.int .i64 0] 3 := by rw [hW5, ← z3]; exact (Dk.Box.new (((w.alloc (.cells #[.int .i64 64, .int .i64 2, .int .i64 16, .int .i64 18, .int .i64 19, .int .i64 4, .int .i64 23] 57)).alloc (.cells #[.int .i64 64, .int .i64 (E : Int), .int .i64 (S0 : Int), .int .i64 (t : Int)] 141)).alloc (.cells #[.slice none 0 0] 161)) #[.int .i64 0] 3).alloc _
  have bx4 : Box W5 (w.heap.size + 4) #[.int .i64 0] 26 := by rw [hW5, ← z4]; exact Dk.Box.new ((((w.alloc (.cells #[.int .i64 64, .int .i64 2, .int .i64 16, .int .i64 18, .int .i64 19, .int .i64 4, .int .i64 23] 57)).alloc (.cells #[.int .i64 64, .int .i64 (E : Int), .int .i64 (S0 : Int), .int .i64 (t : Int)] 141)).alloc (.cells #[.slice none 0 0] 161)).alloc (.cells #[.int .i64 0] 3)) #[.int .i64 0] 26
  have B5 : Below w.heap.size w W5 := by rw [hW5]; exact (((((Below.refl w.heap.size w).alloc (Nat.le_refl _) _).alloc (by simp) _).alloc (by simp; omega) _).alloc (by simp; omega) _).alloc (by simp; omega) _
  have hA := ahead_ok (hd.below B5) hnb (E : Int) (S0 : Int) (t : Int) (by omega) (by omega) (by omega)
  unfold lay at hA ⊢
  refine callsIn_of_wp_marks Tryz.func160 rfl trivial ?_ rfl
  simp only [Tryz.ntmps160, List.size_toArray, List.length_cons, List.length_nil, Nat.reduceAdd, Nat.reduceSub, Array.replicate_succ, Array.replicate_zero, List.push_toArray, List.append_toArray, List.nil_append, List.cons_append]
  have HZ : Hid (W5.heap.size = w.heap.size + 5) := z5
  clear z1 z2 z3 z4 z5
  have HB5 : Hid (Below w.heap.size w W5 ∧ Box W5 (w.heap.size + 2) #[.slice none 0 0] 161 ∧ Box W5 (w.heap.size + 3) #[.int .i64 0] 3 ∧ Box W5 (w.heap.size + 4) #[.int .i64 0] 26) := ⟨B5, bx2, bx3, bx4⟩
  have HD : Hid (∀ u, Below W5.heap.size W5 u → Box u w.heap.size #[.int .i64 64, .int .i64 2, .int .i64 16, .int .i64 18, .int .i64 19, .int .i64 4, .int .i64 23] 57 ∧ Box u (w.heap.size + 1) #[.int .i64 64, .int .i64 (E : Int), .int .i64 (S0 : Int), .int .i64 (t : Int)] 141) := fun u bu => ⟨bx0.below bu, bx1.below bu⟩
  have f0 := bx0.cell 0
  have f1 := bx0.cell 1
  have f2 := bx0.cell 2
  have f3 := bx0.cell 3
  have f4 := bx0.cell 4
  have f5 := bx0.cell 5
  have f6 := bx0.cell 6
  have h0 := bx1.cell 0
  have h1 := bx1.cell 1
  have h2 := bx1.cell 2
  have h3 := bx1.cell 3
  simp only [List.getElem?_toArray, List.getElem?_cons_zero, List.getElem?_cons_succ] at f0 f1 f2 f3 f4 f5 f6 h0 h1 h2 h3
  clear B5 bx0 bx1 bx2 bx3 bx4
  have HW : Hid (∃ W, W = W5) := ⟨_, rfl⟩
  rw [hW5] at hA f0 f1 f2 f3 f4 f5 f6 h0 h1 h2 h3
  gi_wp2_with fail
  refine ⟨trivial, ?_⟩
  refine ((callsIn_wide (n := 3)).2 hA).mono ?_
  rintro r u1 ⟨rfl, b1⟩
  rw [← hW5] at b1
  clear hA f0 f1 f2 f3 f4 f5 f6 h0 h1 h2 h3
  obtain ⟨y0, y1⟩ := HD.out u1 b1
  have f0 := y0.cell 0
  have f1 := y0.cell 1
  have f2 := y0.cell 2
  have f3 := y0.cell 3
  have f4 := y0.cell 4
  have f5 := y0.cell 5
  have f6 := y0.cell 6
  have h0 := y1.cell 0
  have h1 := y1.cell 1
  have h2 := y1.cell 2
  have h3 := y1.cell 3
  simp only [List.getElem?_toArray, List.getElem?_cons_zero, List.getElem?_cons_succ] at f0 f1 f2 f3 f4 f5 f6 h0 h1 h2 h3
  obtain ⟨W8, hW8⟩ : ∃ W8, W8 = (((u1.alloc (.cells #[.pointer (some ⟨dg, 0, none⟩), .int .i64 64, .int .i64 2, .int .i64 16, .int .i64 18, .int .i64 19, .int .i64 4, .int .i64 23, .int .i64 64, .int .i64 (E : Int), .int .i64 (S0 : Int), .int .i64 (t : Int)] 261)).alloc (.cells #[.slice none 0 0] 161)).alloc (.cells #[.int .i64 0] 3)) := ⟨_, rfl⟩
  have s1 : (u1.alloc (.cells #[.pointer (some ⟨dg, 0, none⟩), .int .i64 64, .int .i64 2, .int .i64 16, .int .i64 18, .int .i64 19, .int .i64 4, .int .i64 23, .int .i64 64, .int .i64 (E : Int), .int .i64 (S0 : Int), .int .i64 (t : Int)] 261)).heap.size = u1.heap.size + 1 := by simp
  have s2 : ((u1.alloc (.cells #[.pointer (some ⟨dg, 0, none⟩), .int .i64 64, .int .i64 2, .int .i64 16, .int .i64 18, .int .i64 19, .int .i64 4, .int .i64 23, .int .i64 64, .int .i64 (E : Int), .int .i64 (S0 : Int), .int .i64 (t : Int)] 261)).alloc (.cells #[.slice none 0 0] 161)).heap.size = u1.heap.size + 2 := by simp
  have s3 : Hid (W8.heap.size = u1.heap.size + 3) := by
    have : W8.heap.size = u1.heap.size + 3 := by rw [hW8]; simp
    exact this
  have r0 : Box W8 u1.heap.size #[.pointer (some ⟨dg, 0, none⟩), .int .i64 64, .int .i64 2, .int .i64 16, .int .i64 18, .int .i64 19, .int .i64 4, .int .i64 23, .int .i64 64, .int .i64 (E : Int), .int .i64 (S0 : Int), .int .i64 (t : Int)] 261 := by rw [hW8]; exact ((Dk.Box.new u1 #[.pointer (some ⟨dg, 0, none⟩), .int .i64 64, .int .i64 2, .int .i64 16, .int .i64 18, .int .i64 19, .int .i64 4, .int .i64 23, .int .i64 64, .int .i64 (E : Int), .int .i64 (S0 : Int), .int .i64 (t : Int)] 261).alloc _).alloc _
  have r1 : Hid (Box W8 (u1.heap.size + 1) #[.slice none 0 0] 161) := by
    have : Box W8 (u1.heap.size + 1) #[.slice none 0 0] 161 := by rw [hW8, ← s1]; exact (Dk.Box.new (u1.alloc (.cells #[.pointer (some ⟨dg, 0, none⟩), .int .i64 64, .int .i64 2, .int .i64 16, .int .i64 18, .int .i64 19, .int .i64 4, .int .i64 23, .int .i64 64, .int .i64 (E : Int), .int .i64 (S0 : Int), .int .i64 (t : Int)] 261)) #[.slice none 0 0] 161).alloc _
    exact this
  have r2 : Hid (Box W8 (u1.heap.size + 2) #[.int .i64 0] 3) := by
    have : Box W8 (u1.heap.size + 2) #[.int .i64 0] 3 := by rw [hW8, ← s2]; exact Dk.Box.new ((u1.alloc (.cells #[.pointer (some ⟨dg, 0, none⟩), .int .i64 64, .int .i64 2, .int .i64 16, .int .i64 18, .int .i64 19, .int .i64 4, .int .i64 23, .int .i64 64, .int .i64 (E : Int), .int .i64 (S0 : Int), .int .i64 (t : Int)] 261)).alloc (.cells #[.slice none 0 0] 161)) #[.int .i64 0] 3
    exact this
  have B8 : Hid (Below u1.heap.size u1 W8) := by
    have : Below u1.heap.size u1 W8 := by rw [hW8]; exact (((Below.refl u1.heap.size u1).alloc (Nat.le_refl _) _).alloc (by simp) _).alloc (by simp; omega) _
    exact this
  have R0 : Hid (Box W8 u1.heap.size #[.pointer (some ⟨dg, 0, none⟩), .int .i64 64, .int .i64 2, .int .i64 16, .int .i64 18, .int .i64 19, .int .i64 4, .int .i64 23, .int .i64 64, .int .i64 (E : Int), .int .i64 (S0 : Int), .int .i64 (t : Int)] 261) := r0
  have cR := reader_at W8 dg 64 (E : Int) (S0 : Int) (t : Int)
  unfold rC at cR
  have g0 := r0.cell 0
  have g1 := r0.cell 1
  have g2 := r0.cell 2
  have g3 := r0.cell 3
  have g4 := r0.cell 4
  have g5 := r0.cell 5
  have g6 := r0.cell 6
  have g7 := r0.cell 7
  have g8 := r0.cell 8
  have g9 := r0.cell 9
  have g10 := r0.cell 10
  have g11 := r0.cell 11
  simp only [List.getElem?_toArray, List.getElem?_cons_zero, List.getElem?_cons_succ] at g0 g1 g2 g3 g4 g5 g6 g7 g8 g9 g10 g11
  clear r0 s1 s2 y0 y1
  have hW8' := hW8
  rw [hW8] at g0 g1 g2 g3 g4 g5 g6 g7 g8 g9 g10 g11
  gi_wp2_with fail
  refine ⟨trivial, ?_⟩
  rw [← hW8]
  refine ((callsIn_wide (n := 3)).2 cR).mono ?_
  rintro r u2 ⟨rfl, hbr, b2⟩
  clear cR g0 g1 g2 g3 g4 g5 g6 g7 g8 g9 g10 g11 f0 f1 f2 f3 f4 f5 f6 h0 h1 h2 h3 hW8 hW8' hW5
  gi_wp2_with fail
  have hz8 := s3.out
  have hz5 := HZ.out
  have e8 := b2.size
  have e1 := b1.size
  have BW8 : Below w.heap.size w W8 := (HB5.out.1.trans (b1.mono HB5.out.1.size)).trans (B8.out.mono (by omega))
  have BU2 : Below w.heap.size w u2 := BW8.trans (b2.mono BW8.size)
  have q1 : Box u2 (u1.heap.size + 1) #[.slice none 0 0] 161 := r1.out.below b2
  have q2 : Box u2 (u1.heap.size + 2) #[.int .i64 0] 3 := r2.out.below b2
  have hq3 : W8.heap.size < u2.heap.size := hbr.lt
  have hT : Tl w.heap.size (u1.heap.size + 1) (u1.heap.size + 2) W8.heap.size u2 := by
    refine ⟨hq3, fun k hk => ?_⟩
    rcases hk with rfl | rfl | ⟨v, h1, h2⟩
    · exact ⟨by omega, by omega, by omega⟩
    · exact ⟨by omega, by omega, by omega⟩
    · rw [q1.cell 0] at h1
      simp at h1
      subst h1
      cases h2
  have hI0 : I9 w D t E S0 dg (u1.heap.size + 1) (u1.heap.size + 2) u1.heap.size [] u2 := by
    obtain ⟨_, p2, p3, p4⟩ := HB5.out
    have bb5 := b1.trans ((B8.out.trans (b2.mono B8.out.size)).mono e1)
    exact ⟨⟨_, q1, World.ownsRow_nil _ _ _ _⟩, q2, fun x hx => (by cases hx), R0.out.below b2, p2.below bb5, p3.below bb5, p4.below bb5, BU2⟩
  have hHd := hands9 (4 - 1) (by omega) W8.heap.size (u1.heap.size + 1) (u1.heap.size + 2) dg w.heap.size D _ t E S0 64 ht hnb hgn hlim hS.2 u2 ((disk_cells hd).kept (fun i hi => BU2.block i (hd.flt i hi.1)) BU2.size)
    (fun k hk => ⟨hd.flt k hk.1, by obtain ⟨_, o, h1, h2⟩ := hk; exact ⟨o, (BU2.block k (hd.flt k (by assumption))).trans h1, h2⟩⟩) hbr hT BU2.size
  have HT : Hid (w.heap.size + 5 ≤ u1.heap.size ∧ u1.heap.size + 3 ≤ u2.heap.size) := ⟨by omega, by omega⟩
  clear hT q1 q2 hz8 hz5 e8 e1 hq3
  refine wpIn_range_told rfl (by omega) (gf := 239) (lb := #[.pointer (some ⟨W8.heap.size, 0, none⟩)]) rfl trivial (enters_of Tryz.func239 (by kernel_rfl) rfl) hHd (Below.refl _ _) Kp.trans (fun W l o o' hl ho hc _ => kp_put o' (B := u2.heap.size) (by have := HT.out; omega) hl ho hc) (fun _ => rfl)
    (fun pre W => I9 w D t E S0 dg (u1.heap.size + 1) (u1.heap.size + 2) u1.heap.size pre W) (I9.own BU2.size) hI0
    (fun pre x a' W => pre.length < 16 ∧ ∃ Bx, Box W Bx #[.int .i64 (E : Int), .int .i64 (x.s : Int), .slice x.a x.m x.c] 203 ∧ (∃ v0 : Value, Box W (u1.heap.size + 1) #[v0] 161 ∧ v0.ownBlock ≠ some Bx) ∧ GA D t E x W ∧ a' = ({ tmps := #[.pointer (some ⟨dg, 0, none⟩), .agg #[.int .i64 64, .int .i64 2, .int .i64 16, .int .i64 18, .int .i64 19, .int .i64 4, .int .i64 23], .agg #[.int .i64 64, .int .i64 (E : Int), .int .i64 (S0 : Int), .int .i64 (t : Int)], undef, .pointer (some ⟨w.heap.size, 0, none⟩), .pointer (some ⟨w.heap.size + 1, 0, none⟩), .pointer (some ⟨w.heap.size + 1 + 1, 0, none⟩), .pointer (some ⟨w.heap.size + 1 + 1 + 1, 0, none⟩), .pointer (some ⟨w.heap.size + 1 + 1 + 1 + 1, 0, none⟩), .int .i64 0, .pointer (some ⟨u1.heap.size, 0, none⟩), .pointer (some ⟨u1.heap.size + 1, 0, none⟩), .pointer (some ⟨u1.heap.size + 1 + 1, 0, none⟩), .pointer (some ⟨Bx, 0, none⟩), .int .i64 0, .pointer (some ⟨dg, 0, none⟩), .agg #[.int .i64 64, .int .i64 2, .int .i64 16, .int .i64 18, .int .i64 19, .int .i64 4, .int .i64 23], .agg #[.int .i64 64, .int .i64 (E : Int), .int .i64 (S0 : Int), .int .i64 (t : Int)], .int .i64 0, .int .i64 0, .bool false, undef, .pointer (some ⟨dg, 0, none⟩), .agg #[.int .i64 64, .int .i64 2, .int .i64 16, .int .i64 18, .int .i64 19, .int .i64 4, .int .i64 23], .agg #[.int .i64 64, .int .i64 (E : Int), .int .i64 (S0 : Int), .int .i64 (t : Int)], .agg #[.pointer (some ⟨dg, 0, none⟩), .int .i64 64, .int .i64 2, .int .i64 16, .int .i64 18, .int .i64 19, .int .i64 4, .int .i64 23, .int .i64 64, .int .i64 (E : Int), .int .i64 (S0 : Int), .int .i64 (t : Int)], .agg #[.pointer (some ⟨dg, 0, none⟩), .int .i64 64, .int .i64 2, .int .i64 16, .int .i64 18, .int .i64 19, .int .i64 4, .int .i64 23, .int .i64 64, .int .i64 (E : Int), .int .i64 (S0 : Int), .int .i64 (t : Int)], .func (.func 239) #[] #[.pointer (some ⟨W8.heap.size, 0, none⟩)], .agg #[.int .i64 (E : Int), .int .i64 (x.s : Int), .slice x.a x.m x.c], .int .i64 0, undef, undef, undef, undef, undef, undef, undef, undef, undef, undef, undef, undef, undef, undef, undef, undef, undef], defers := [] } : Act)) ?hAx ?assign ?body ?done
  case hAx =>
    intro pre x a' _ A C row hs hg hr
    obtain ⟨h0, Bx, h1, h2, h3, h4⟩ := hs
    have hk : ∀ (k : Nat) (cs : Array Value) (ty : TypeId), Box A k cs ty → C.heap[k]? = A.heap[k]? := fun k cs ty hb => hg.block k hb.lt (fun e => by
      obtain ⟨_, o, ho, hc⟩ := hr k e.symm
      have hb' : A.heap[k]? = some (.cells cs ty) := hb
      rw [hb'] at ho
      cases ho
      cases hc)
    obtain ⟨v0, h5, h6⟩ := h2
    exact ⟨h0, Bx, (hk _ _ _ h1).trans h1, ⟨v0, (hk _ _ _ h5).trans h5, h6⟩, h3.kept (fun k cs ty hb _ => hk k cs ty hb), h4⟩
  case assign =>
    rintro l pre x W K hi ⟨hA, hpl⟩ hK
    dsimp only [encG]
    have al := (Below.refl W.heap.size W).alloc (Nat.le_refl _) (.cells #[.int .i64 (E : Int), .int .i64 (x.s : Int), .slice x.a x.m x.c] 203)
    have nb := Dk.Box.new W #[.int .i64 (E : Int), .int .i64 (x.s : Int), .slice x.a x.m x.c] 203
    gi_wp2_with fail
    obtain ⟨v0, hv0, ho0⟩ := hi.row
    exact hK _ _ ((KeepsOthers.alloc _ _).from _) (kp_below al hv0.lt) (hi.below al) ⟨hpl, W.heap.size, nb, ⟨v0, hv0.below al, fun e => by have := (ho0.lt _ e).2; omega⟩, hA.kept (fun k cs ty hb _ => al.block k hb.lt), rfl⟩
  case body =>
    rintro l pre x a' W hl ⟨r, hr⟩ hi ⟨hpl, Bx, hbx, ⟨v0, hv0, hne⟩, hga, rfl⟩
    have HI : Hid (I9 w D t E S0 dg (u1.heap.size + 1) (u1.heap.size + 2) u1.heap.size pre W) := hi
    obtain ⟨⟨v, hv, hown⟩, hsum, _⟩ := hi
    obtain rfl : v0 = v := by
      have := hv.symm.trans hv0
      simpa using this.symm
    obtain ⟨av, cv, rfl⟩ := Rc.owns_shape hown
    have c0 := hv0.cell 0
    have d0 := hbx.cell 0
    have d1 := hbx.cell 1
    have d2 := hbx.cell 2
    have s0 := hsum.cell 0
    simp only [List.getElem?_toArray, List.getElem?_cons_zero, List.getElem?_cons_succ] at c0 d0 d1 d2 s0
    have al := (Below.refl W.heap.size W).alloc (Nat.le_refl _) (.cells #[.int .i64 (E : Int), .int .i64 (x.s : Int), .slice x.a x.m x.c] 203)
    have own1 := Rc.owns_below hown al
    have bsz : w.heap.size ≤ (W.alloc (.cells #[.int .i64 (E : Int), .int .i64 (x.s : Int), .slice x.a x.m x.c] 203)).heap.size := Nat.le_trans HI.out.bel.size al.size
    gi_wp2_with (gi_at_builtin; refine wpListIn_append_own_at _ rfl _ _ 161 rfl w.heap.size 203 i0 _ 3 40 Tryz.underlying161 hi0 hz0 hz1 hz2 rfl (by decide) _ pre.length _ rfl own1 ⟨W.heap.size, 0, none⟩ 1 1 [.int .i64 (E : Int), .int .i64 (x.s : Int), .slice x.a x.m x.c] rfl rfl ?c1 ?c2 ?c3 ?c4 bsz ?_)
    case c1 => exact World.news_of_block (cs := #[.int .i64 (E : Int), .int .i64 (x.s : Int), .slice x.a x.m x.c]) (t := 203) (fr := (0, 0)) (heap_alloc_new W _)
    case c2 => intro u hu; simp at hu; rcases hu with rfl | rfl | rfl <;> rfl
    case c3 => unfold maxLen; omega
    case c4 => omega
    intro v' w4 own4 hg4 _ hat
    obtain ⟨av', cv', rfl⟩ := Rc.owns_shape own4
    have hro : ∀ k cs (ty : TypeId), Box W k cs ty → (203 : TypeId) ≠ ty ∨ (Value.slice av pre.length cv).ownBlock ≠ some k → w4.heap[k]? = W.heap[k]? := fun k cs ty hb hn => by
      have hb1 := hb.below al
      refine (hg4.block k hb1.lt (fun e => ?_)).trans (al.block k hb.lt)
      rcases hn with h | h
      · obtain ⟨_, cur, hb2⟩ := Rc.owns_block own1 k e.symm
        exact hb2.ne hb1 h rfl
      · exact h e.symm
    have k1 : Box w4 (u1.heap.size + 1) #[.slice av pre.length cv] 161 := (hro _ _ _ hv0 (.inl (by decide))).trans hv0
    have k2 : Box w4 (u1.heap.size + 2) #[.int .i64 (tot pre : Int)] 3 := (hro _ _ _ hsum (.inl (by decide))).trans hsum
    have k3 : Box w4 Bx #[.int .i64 (E : Int), .int .i64 (x.s : Int), .slice x.a x.m x.c] 203 := (hro _ _ _ hbx (.inr hne)).trans hbx
    have m1 := k1.cell 0
    have m1f := k1.frozen 0
    simp only [List.getElem?_toArray, List.getElem?_cons_zero] at m1
    have HG4 : Hid (W.alloc (.cells #[.int .i64 (E : Int), .int .i64 (x.s : Int), .slice x.a x.m x.c] 203) |>.grownBy w4 (Value.slice av pre.length cv).ownBlock) := hg4
    have HRO : Hid (∀ k cs (ty : TypeId), Box W k cs ty → (203 : TypeId) ≠ ty ∨ (Value.slice av pre.length cv).ownBlock ≠ some k → w4.heap[k]? = W.heap[k]?) := hro
    clear hg4 hro c0 d0 d1 d2 s0 al bsz
    gi_wp2_with fail
    obtain ⟨V, hV⟩ : ∃ V, V = (w4.setCell ⟨u1.heap.size + 1, 0, none⟩ (.slice av' (pre.length + 1) cv')).drew := ⟨_, rfl⟩
    have n2 : Box V (u1.heap.size + 1 + 1) #[.int .i64 (tot pre : Int)] 3 := by rw [hV]; exact (heap_setCell_other w4 ⟨u1.heap.size + 1, 0, none⟩ (u1.heap.size + 2) _ (by show u1.heap.size + 2 ≠ u1.heap.size + 1; omega)).trans k2
    have n3 : Box V Bx #[.int .i64 (E : Int), .int .i64 (x.s : Int), .slice x.a x.m x.c] 203 := by rw [hV]; exact (heap_setCell_other w4 ⟨u1.heap.size + 1, 0, none⟩ Bx _ (by show Bx ≠ u1.heap.size + 1; exact fun e => by subst e; exact k3.ne k1 (by decide) rfl)).trans k3
    have x0 := n2.cell 0
    have x1 := n3.cell 2
    have x2 := n2.frozen 0
    simp only [List.getElem?_toArray, List.getElem?_cons_zero, List.getElem?_cons_succ] at x0 x1
    refine wpIn_region_any (by kernel_rfl) ?_
    change wpAnyIn _ _ _ _ _ _ _ _ _ (World.drew _)
    rw [← hV]
    have HV : Hid (V = (w4.setCell ⟨u1.heap.size + 1, 0, none⟩ (.slice av' (pre.length + 1) cv')).drew) := hV
    clear hV
    have cB := Rc.blocks_at (x.m : Int)
    have hm16 : x.m + 1 ≤ 16 := by
      have h1 := hga.1.2.1
      rw [← hga.2.1] at h1
      omega
    have htot : tot pre ≤ 256 := by
      have := tot_le pre (fun y hy => by
        have h1 := HI.out.all y hy
        have h2 := h1.1.2.1
        rw [← h1.2.1] at h2
        omega)
      omega
    have hm1 : 1 ≤ x.m := by
      have h := hga.1.1.1.2.1.2.1
      have h' : 1 ≤ cntAt D t x.b ∧ cntAt D t x.b ≤ 32 := by simpa [cntAt] using h
      rw [← hga.2.1] at h'
      exact h'.1
    have ebl : Rc.blocksN (x.m : Int) = (x.m : Int) + 1 := by
      unfold Rc.blocksN
      rw [if_pos (by omega)]
    rw [ebl] at cB
    have HEnd : Hid (KeepsFrom u2.heap.size W (V.setCell ⟨u1.heap.size + 1 + 1, 0, none⟩ (.int .i64 ((tot pre : Int) + ((x.m : Int) + 1)))) ∧ Kp (u1.heap.size + 1) (u1.heap.size + 2) W (V.setCell ⟨u1.heap.size + 1 + 1, 0, none⟩ (.int .i64 ((tot pre : Int) + ((x.m : Int) + 1)))) ∧ I9 w D t E S0 dg (u1.heap.size + 1) (u1.heap.size + 2) u1.heap.size (pre ++ [x]) (V.setCell ⟨u1.heap.size + 1 + 1, 0, none⟩ (.int .i64 ((tot pre : Int) + ((x.m : Int) + 1))))) := by
      obtain ⟨U, hU⟩ : ∃ U, U = (V.setCell ⟨u1.heap.size + 1 + 1, 0, none⟩ (.int .i64 ((tot pre : Int) + ((x.m : Int) + 1)))) := ⟨_, rfl⟩
      rw [← hU]
      have hT0 := HT.out
      have al2 := (Below.refl W.heap.size W).alloc (Nat.le_refl _) (.cells #[.int .i64 (E : Int), .int .i64 (x.s : Int), .slice x.a x.m x.c] 203)
      have szW4 : W.heap.size + 1 ≤ w4.heap.size := by
        have := HG4.out.size
        simpa using this
      have szU : U.heap.size = w4.heap.size := by rw [hU, HV.out]; simp
      have h4 : ∀ k, k ≠ u1.heap.size + 1 → k ≠ u1.heap.size + 2 → U.heap[k]? = w4.heap[k]? := fun k h1 h2 => by
        rw [hU]
        refine (heap_setCell_other V ⟨u1.heap.size + 1 + 1, 0, none⟩ k _ h2).trans ?_
        rw [HV.out]
        exact heap_setCell_other w4 ⟨u1.heap.size + 1, 0, none⟩ k _ h1
      have hk : ∀ k cs (ty : TypeId), Box W k cs ty → k ≠ u1.heap.size + 1 → k ≠ u1.heap.size + 2 → (203 : TypeId) ≠ ty ∨ (Value.slice av pre.length cv).ownBlock ≠ some k → U.heap[k]? = W.heap[k]? := fun k cs ty hb h1 h2 h3 => (h4 k h1 h2).trans (HRO.out k cs ty hb h3)
      have ubt : Box U (u1.heap.size + 1) #[.slice av' (pre.length + 1) cv'] 161 := by
        rw [hU]
        refine (heap_setCell_other V ⟨u1.heap.size + 1 + 1, 0, none⟩ (u1.heap.size + 1) _ (by show u1.heap.size + 1 ≠ u1.heap.size + 1 + 1; omega)).trans ?_
        rw [HV.out]
        have h := k1.store 0 (.slice av' (pre.length + 1) cv')
        simp at h
        exact h
      have ubb : Box U (u1.heap.size + 2) #[.int .i64 (tot (pre ++ [x]) : Int)] 3 := by
        rw [hU]
        have := n2.store 0 (.int .i64 ((tot pre : Int) + ((x.m : Int) + 1)))
        rw [tot_snoc]
        push_cast
        simpa using this
      have hv1 : ∀ k, (Value.slice av pre.length cv).ownBlock = some k → ∃ cur, Box W k cur 203 := fun k e => by
        obtain ⟨_, cur, hb⟩ := Rc.owns_block hown k e
        exact ⟨cur, hb⟩
      have hoth : ∀ (k : Nat) (o : Obj), W.heap[k]? = some o → (k = u1.heap.size + 1 ∨ k = u1.heap.size + 2 ∨ (Value.slice av pre.length cv).ownBlock = some k → False) → U.heap[k]? = some o := fun k o ho hn => by
        have hlt := (Array.getElem?_eq_some_iff.1 ho).1
        rw [h4 k (fun e => hn (.inl e)) (fun e => hn (.inr (.inl e))), HG4.out.block k (by simp; omega) (fun e => hn (.inr (.inr e.symm))), al2.block k hlt, ho]
      refine ⟨⟨by omega, fun k o _ ho hc => hoth k o ho (fun h => ?_)⟩, ⟨by omega, fun k o ho _ hc => hoth k o ho (fun h => hc ?_), fun k hc => ?_⟩, ?_⟩
      · have hcs : ∃ cs ty, Box W k cs ty := by
          rcases h with h | h | h
          · exact ⟨_, _, h ▸ hv0⟩
          · exact ⟨_, _, h ▸ hsum⟩
          · obtain ⟨cur, hb⟩ := hv1 k h
            exact ⟨_, _, hb⟩
        obtain ⟨cs, ty, hb⟩ := hcs
        have hb' : W.heap[k]? = some (.cells cs ty) := hb
        rw [hb'] at ho
        cases ho
        cases hc
      · rcases h with h | h | h
        · exact .inl h
        · exact .inr (.inl h)
        · exact .inr (.inr ⟨_, hv0.cell 0, h⟩)
      · rcases hc with h | h | ⟨v, e1, e2⟩
        · exact .inl (.inl h)
        · exact .inl (.inr (.inl h))
        · rw [ubt.cell 0] at e1
          simp at e1
          subst e1
          rcases hat with h | h
          · exact .inl (.inr (.inr ⟨_, hv0.cell 0, h ▸ e2⟩))
          · right
            have h5 := (own4.lt k e2).2
            rw [h] at e2
            simp at e2
            omega
      · have hi := HI.out
        have ne52 : ∀ k cs (ty : TypeId), Box W k cs ty → (203 : TypeId) ≠ ty → k ≠ u1.heap.size + 1 → k ≠ u1.heap.size + 2 → Box U k cs ty := fun k cs ty hb h1 h2 h3 => (hk k cs ty hb h2 h3 (.inl h1)).trans hb
        have gk : ∀ y, GA D t E y W → GA D t E y U := fun y hy => hy.kept (fun k cs ty hb ht => hk k cs ty hb
          (fun e => by subst e; rcases ht with rfl | rfl <;> exact hb.ne hv0 (by decide) rfl)
          (fun e => by subst e; rcases ht with rfl | rfl <;> exact hb.ne hsum (by decide) rfl)
          (.inl (by rcases ht with rfl | rfl <;> decide)))
        refine ⟨⟨_, ubt, ?_⟩, ubb, fun y hy => ?_, ne52 _ _ _ hi.rdr (by decide) (by omega) (by omega), ne52 _ _ _ hi.o2 (by decide) (by omega) (by omega), ne52 _ _ _ hi.o3 (by decide) (by omega) (by omega), ne52 _ _ _ hi.o4 (by decide) (by omega) (by omega), ?_⟩
        · rw [gsC_snoc, List.length_append]
          refine J.owns_kept own4 (fun k e => ?_)
          obtain ⟨_, cur, hb⟩ := Rc.owns_block own4 k e
          exact h4 k (fun e => by subst e; exact hb.ne k1 (by decide) rfl) (fun e => by subst e; exact hb.ne k2 (by decide) rfl)
        · rcases List.mem_append.1 hy with hy | hy
          · exact gk y (hi.all y hy)
          · obtain rfl : y = x := by simpa using hy
            exact gk y hga
        · have hb4 : Below w.heap.size w w4 := (hi.bel.trans (al2.mono hi.bel.size)).grown HG4.out (Nat.le_trans hi.bel.size al2.size) (fun k e => (hown.lt k e).1)
          rw [hU, HV.out]
          exact ((hb4.setCell (p := ⟨u1.heap.size + 1, 0, none⟩) (by show w.heap.size ≤ u1.heap.size + 1; omega) _).drew).setCell (p := ⟨u1.heap.size + 1 + 1, 0, none⟩) (by show w.heap.size ≤ u1.heap.size + 1 + 1; omega) _
    have hww : IntKind.i64.wrap ((tot pre : Int) + ((x.m : Int) + 1)) = (tot pre : Int) + ((x.m : Int) + 1) := by rw [IntKind.wrap_i64]; omega
    rw [← hww] at HEnd
    clear hww ebl hm1 n2 n3 k1 k2 k3 own4 own1 hat
    refine wpAnyIn_ready (rs := [0, 1]) (by kernel_rfl) (by simp) ?_
    refine AllReadyIn.cons rfl (fun K hK2 => ?_) ?_
    · skip
      go_simp
      refine hK2 _ _ ?_
      clear hK2 K
      refine wpAnyIn_ready (rs := [1]) (by kernel_rfl) (by simp) ?_
      refine AllReadyIn.cons rfl (fun K hK2 => ?_) ?_
      · skip
        go_simp
        refine hK2 _ _ ?_
        clear hK2 K
        refine wpAnyIn_ready (rs := [2]) (by kernel_rfl) (by simp) ?_
        refine AllReadyIn.cons rfl (fun K hK2 => ?_) ?_
        · skip
          go_simp
          refine hK2 _ _ ?_
          clear hK2 K
          refine wpAnyIn_ready (rs := [3]) (by kernel_rfl) (by simp) ?_
          refine AllReadyIn.cons rfl (fun K hK2 => ?_) ?_
          · skip
            go_simp
            refine hK2 _ _ ?_
            clear hK2 K
            refine wpAnyIn_ready (rs := [4]) (by kernel_rfl) (by simp) ?_
            refine AllReadyIn.cons rfl (fun K hK2 => ?_) ?_
            · skip
              go_simp
              refine ⟨trivial, (CallsIn.inRound l ((callsIn_wide (n := 1)).2 (cB V))).mono ?_⟩
              rintro r V' ⟨rfl, rfl⟩
              refine hK2 _ _ ?_
              clear hK2 K
              refine wpAnyIn_ready (rs := [5]) (by kernel_rfl) (by simp) ?_
              refine AllReadyIn.cons rfl (fun K hK2 => ?_) ?_
              · skip
                go_simp
                refine hK2 _ _ ?_
                clear hK2 K
                refine wpAnyIn_ready (rs := [6]) (by kernel_rfl) (by simp) ?_
                refine AllReadyIn.cons rfl (fun K hK2 => ?_) ?_
                · skip
                  go_simp
                  refine hK2 _ _ ?_
                  clear hK2 K
                  refine wpAnyIn_done (by kernel_rfl) ?_ _
                  gi_wp2_with fail
                  exact HEnd.out
                exact AllReadyIn.nil
              exact AllReadyIn.nil
            exact AllReadyIn.nil
          exact AllReadyIn.nil
        exact AllReadyIn.nil
      exact AllReadyIn.nil
    refine AllReadyIn.cons rfl (fun K hK2 => ?_) ?_
    · skip
      go_simp
      refine hK2 _ _ ?_
      clear hK2 K
      refine wpAnyIn_ready (rs := [0, 2]) (by kernel_rfl) (by simp) ?_
      refine AllReadyIn.cons rfl (fun K hK2 => ?_) ?_
      · skip
        go_simp
        refine hK2 _ _ ?_
        clear hK2 K
        refine wpAnyIn_ready (rs := [2]) (by kernel_rfl) (by simp) ?_
        refine AllReadyIn.cons rfl (fun K hK2 => ?_) ?_
        · skip
          go_simp
          refine hK2 _ _ ?_
          clear hK2 K
          refine wpAnyIn_ready (rs := [3]) (by kernel_rfl) (by simp) ?_
          refine AllReadyIn.cons rfl (fun K hK2 => ?_) ?_
          · skip
            go_simp
            refine hK2 _ _ ?_
            clear hK2 K
            refine wpAnyIn_ready (rs := [4]) (by kernel_rfl) (by simp) ?_
            refine AllReadyIn.cons rfl (fun K hK2 => ?_) ?_
            · skip
              go_simp
              refine ⟨trivial, (CallsIn.inRound l ((callsIn_wide (n := 1)).2 (cB V))).mono ?_⟩
              rintro r V' ⟨rfl, rfl⟩
              refine hK2 _ _ ?_
              clear hK2 K
              refine wpAnyIn_ready (rs := [5]) (by kernel_rfl) (by simp) ?_
              refine AllReadyIn.cons rfl (fun K hK2 => ?_) ?_
              · skip
                go_simp
                refine hK2 _ _ ?_
                clear hK2 K
                refine wpAnyIn_ready (rs := [6]) (by kernel_rfl) (by simp) ?_
                refine AllReadyIn.cons rfl (fun K hK2 => ?_) ?_
                · skip
                  go_simp
                  refine hK2 _ _ ?_
                  clear hK2 K
                  refine wpAnyIn_done (by kernel_rfl) ?_ _
                  gi_wp2_with fail
                  exact HEnd.out
                exact AllReadyIn.nil
              exact AllReadyIn.nil
            exact AllReadyIn.nil
          exact AllReadyIn.nil
        exact AllReadyIn.nil
      refine AllReadyIn.cons rfl (fun K hK2 => ?_) ?_
      · skip
        go_simp
        refine hK2 _ _ ?_
        clear hK2 K
        refine wpAnyIn_ready (rs := [0, 3]) (by kernel_rfl) (by simp) ?_
        refine AllReadyIn.cons rfl (fun K hK2 => ?_) ?_
        · skip
          go_simp
          refine hK2 _ _ ?_
          clear hK2 K
          refine wpAnyIn_ready (rs := [3]) (by kernel_rfl) (by simp) ?_
          refine AllReadyIn.cons rfl (fun K hK2 => ?_) ?_
          · skip
            go_simp
            refine hK2 _ _ ?_
            clear hK2 K
            refine wpAnyIn_ready (rs := [4]) (by kernel_rfl) (by simp) ?_
            refine AllReadyIn.cons rfl (fun K hK2 => ?_) ?_
            · skip
              go_simp
              refine ⟨trivial, (CallsIn.inRound l ((callsIn_wide (n := 1)).2 (cB V))).mono ?_⟩
              rintro r V' ⟨rfl, rfl⟩
              refine hK2 _ _ ?_
              clear hK2 K
              refine wpAnyIn_ready (rs := [5]) (by kernel_rfl) (by simp) ?_
              refine AllReadyIn.cons rfl (fun K hK2 => ?_) ?_
              · skip
                go_simp
                refine hK2 _ _ ?_
                clear hK2 K
                refine wpAnyIn_ready (rs := [6]) (by kernel_rfl) (by simp) ?_
                refine AllReadyIn.cons rfl (fun K hK2 => ?_) ?_
                · skip
                  go_simp
                  refine hK2 _ _ ?_
                  clear hK2 K
                  refine wpAnyIn_done (by kernel_rfl) ?_ _
                  gi_wp2_with fail
                  exact HEnd.out
                exact AllReadyIn.nil
              exact AllReadyIn.nil
            exact AllReadyIn.nil
          exact AllReadyIn.nil
        refine AllReadyIn.cons rfl (fun K hK2 => ?_) ?_
        · skip
          go_simp
          refine hK2 _ _ ?_
          clear hK2 K
          refine wpAnyIn_ready (rs := [0, 4]) (by kernel_rfl) (by simp) ?_
          refine AllReadyIn.cons rfl (fun K hK2 => ?_) ?_
          · skip
            go_simp
            refine hK2 _ _ ?_
            clear hK2 K
            refine wpAnyIn_ready (rs := [4]) (by kernel_rfl) (by simp) ?_
            refine AllReadyIn.cons rfl (fun K hK2 => ?_) ?_
            · skip
              go_simp
              refine ⟨trivial, (CallsIn.inRound l ((callsIn_wide (n := 1)).2 (cB V))).mono ?_⟩
              rintro r V' ⟨rfl, rfl⟩
              refine hK2 _ _ ?_
              clear hK2 K
              refine wpAnyIn_ready (rs := [5]) (by kernel_rfl) (by simp) ?_
              refine AllReadyIn.cons rfl (fun K hK2 => ?_) ?_
              · skip
                go_simp
                refine hK2 _ _ ?_
                clear hK2 K
                refine wpAnyIn_ready (rs := [6]) (by kernel_rfl) (by simp) ?_
                refine AllReadyIn.cons rfl (fun K hK2 => ?_) ?_
                · skip
                  go_simp
                  refine hK2 _ _ ?_
                  clear hK2 K
                  refine wpAnyIn_done (by kernel_rfl) ?_ _
                  gi_wp2_with fail
                  exact HEnd.out
                exact AllReadyIn.nil
              exact AllReadyIn.nil
            exact AllReadyIn.nil
          refine AllReadyIn.cons rfl (fun K hK2 => ?_) ?_
          · skip
            go_simp
            refine ⟨trivial, (CallsIn.inRound l ((callsIn_wide (n := 1)).2 (cB V))).mono ?_⟩
            rintro r V' ⟨rfl, rfl⟩
            refine hK2 _ _ ?_
            clear hK2 K
            refine wpAnyIn_ready (rs := [0]) (by kernel_rfl) (by simp) ?_
            refine AllReadyIn.cons rfl (fun K hK2 => ?_) ?_
            · skip
              go_simp
              refine hK2 _ _ ?_
              clear hK2 K
              refine wpAnyIn_ready (rs := [5]) (by kernel_rfl) (by simp) ?_
              refine AllReadyIn.cons rfl (fun K hK2 => ?_) ?_
              · skip
                go_simp
                refine hK2 _ _ ?_
                clear hK2 K
                refine wpAnyIn_ready (rs := [6]) (by kernel_rfl) (by simp) ?_
                refine AllReadyIn.cons rfl (fun K hK2 => ?_) ?_
                · skip
                  go_simp
                  refine hK2 _ _ ?_
                  clear hK2 K
                  refine wpAnyIn_done (by kernel_rfl) ?_ _
                  gi_wp2_with fail
                  exact HEnd.out
                exact AllReadyIn.nil
              exact AllReadyIn.nil
            exact AllReadyIn.nil
          exact AllReadyIn.nil
        exact AllReadyIn.nil
      exact AllReadyIn.nil
    exact AllReadyIn.nil
  case done =>
    rintro D' xs W hD hR hi hdf
    have hfit := hR.fits (by omega)
    obtain ⟨⟨v, hv, hown⟩, hsum, hall, hrd, p2, p3, p4, hbel⟩ := hi
    obtain ⟨av, cv, rfl⟩ := Rc.owns_shape hown
    have HS : Hid (∀ u, Below W.heap.size W u → u.cell? ⟨u1.heap.size, 0, none⟩ = some (.pointer (some ⟨dg, 0, none⟩)) ∧ u.cell? ⟨u1.heap.size, 1, none⟩ = some (.int .i64 64) ∧ u.cell? ⟨u1.heap.size, 2, none⟩ = some (.int .i64 2) ∧ u.cell? ⟨u1.heap.size, 3, none⟩ = some (.int .i64 16) ∧ u.cell? ⟨u1.heap.size, 4, none⟩ = some (.int .i64 18) ∧ u.cell? ⟨u1.heap.size, 5, none⟩ = some (.int .i64 19) ∧ u.cell? ⟨u1.heap.size, 6, none⟩ = some (.int .i64 4) ∧ u.cell? ⟨u1.heap.size, 7, none⟩ = some (.int .i64 23) ∧ u.cell? ⟨u1.heap.size, 8, none⟩ = some (.int .i64 64) ∧ u.cell? ⟨u1.heap.size, 9, none⟩ = some (.int .i64 (E : Int)) ∧ u.cell? ⟨u1.heap.size, 10, none⟩ = some (.int .i64 (S0 : Int)) ∧ u.cell? ⟨u1.heap.size, 11, none⟩ = some (.int .i64 (t : Int)) ∧ u.cell? ⟨u1.heap.size + 1, 0, none⟩ = some (.slice av xs.length cv) ∧ u.cell? ⟨u1.heap.size + 1 + 1, 0, none⟩ = some (.int .i64 (tot xs : Int))) := fun u bu => by
      have y := hrd.below bu
      unfold rC at y
      exact ⟨y.cell 0, y.cell 1, y.cell 2, y.cell 3, y.cell 4, y.cell 5, y.cell 6, y.cell 7, y.cell 8, y.cell 9, y.cell 10, y.cell 11, (hv.below bu).cell 0, (hsum.below bu).cell 0⟩
    have HS2 : Hid (∀ (u : World) (b : Nat) (v : Value), b < u1.heap.size → (u.cell? ⟨u1.heap.size, 0, none⟩ = some (.pointer (some ⟨dg, 0, none⟩)) ∧ u.cell? ⟨u1.heap.size, 1, none⟩ = some (.int .i64 64) ∧ u.cell? ⟨u1.heap.size, 2, none⟩ = some (.int .i64 2) ∧ u.cell? ⟨u1.heap.size, 3, none⟩ = some (.int .i64 16) ∧ u.cell? ⟨u1.heap.size, 4, none⟩ = some (.int .i64 18) ∧ u.cell? ⟨u1.heap.size, 5, none⟩ = some (.int .i64 19) ∧ u.cell? ⟨u1.heap.size, 6, none⟩ = some (.int .i64 4) ∧ u.cell? ⟨u1.heap.size, 7, none⟩ = some (.int .i64 23) ∧ u.cell? ⟨u1.heap.size, 8, none⟩ = some (.int .i64 64) ∧ u.cell? ⟨u1.heap.size, 9, none⟩ = some (.int .i64 (E : Int)) ∧ u.cell? ⟨u1.heap.size, 10, none⟩ = some (.int .i64 (S0 : Int)) ∧ u.cell? ⟨u1.heap.size, 11, none⟩ = some (.int .i64 (t : Int)) ∧ u.cell? ⟨u1.heap.size + 1, 0, none⟩ = some (.slice av xs.length cv) ∧ u.cell? ⟨u1.heap.size + 1 + 1, 0, none⟩ = some (.int .i64 (tot xs : Int))) → ((fun u : World => u.cell? ⟨u1.heap.size, 0, none⟩ = some (.pointer (some ⟨dg, 0, none⟩)) ∧ u.cell? ⟨u1.heap.size, 1, none⟩ = some (.int .i64 64) ∧ u.cell? ⟨u1.heap.size, 2, none⟩ = some (.int .i64 2) ∧ u.cell? ⟨u1.heap.size, 3, none⟩ = some (.int .i64 16) ∧ u.cell? ⟨u1.heap.size, 4, none⟩ = some (.int .i64 18) ∧ u.cell? ⟨u1.heap.size, 5, none⟩ = some (.int .i64 19) ∧ u.cell? ⟨u1.heap.size, 6, none⟩ = some (.int .i64 4) ∧ u.cell? ⟨u1.heap.size, 7, none⟩ = some (.int .i64 23) ∧ u.cell? ⟨u1.heap.size, 8, none⟩ = some (.int .i64 64) ∧ u.cell? ⟨u1.heap.size, 9, none⟩ = some (.int .i64 (E : Int)) ∧ u.cell? ⟨u1.heap.size, 10, none⟩ = some (.int .i64 (S0 : Int)) ∧ u.cell? ⟨u1.heap.size, 11, none⟩ = some (.int .i64 (t : Int)) ∧ u.cell? ⟨u1.heap.size + 1, 0, none⟩ = some (.slice av xs.length cv) ∧ u.cell? ⟨u1.heap.size + 1 + 1, 0, none⟩ = some (.int .i64 (tot xs : Int))) (u.setCell ⟨b, 0, none⟩ v))) := fun u b v hb hu => by
      have ho : ∀ k j, u1.heap.size ≤ k → (u.setCell ⟨b, 0, none⟩ v).cell? ⟨k, j, none⟩ = u.cell? ⟨k, j, none⟩ := fun k j hk => World.cell?_of_block (heap_setCell_other u ⟨b, 0, none⟩ k v (by show k ≠ b; omega))
      simp only [ho _ _ (Nat.le_refl _), ho (u1.heap.size + 1) _ (by omega), ho (u1.heap.size + 1 + 1) _ (by omega)]
      exact hu
    have hlo : w.heap.size + 1 + 1 + 1 + 1 < u1.heap.size := by have := HT.out; omega
    have cP := place_at dg t (tot xs) 64 (E : Int) (S0 : Int) W.drew ht (by omega)
    unfold rC at cP
    have Bd : Below W.heap.size W W.drew := (Below.refl W.heap.size W).drew
    gi_wp2_with fail
    refine wpIn_wide.2 ?_
    go_region_held3 (fun u => u.cell? ⟨u1.heap.size, 0, none⟩ = some (.pointer (some ⟨dg, 0, none⟩)) ∧ u.cell? ⟨u1.heap.size, 1, none⟩ = some (.int .i64 64) ∧ u.cell? ⟨u1.heap.size, 2, none⟩ = some (.int .i64 2) ∧ u.cell? ⟨u1.heap.size, 3, none⟩ = some (.int .i64 16) ∧ u.cell? ⟨u1.heap.size, 4, none⟩ = some (.int .i64 18) ∧ u.cell? ⟨u1.heap.size, 5, none⟩ = some (.int .i64 19) ∧ u.cell? ⟨u1.heap.size, 6, none⟩ = some (.int .i64 4) ∧ u.cell? ⟨u1.heap.size, 7, none⟩ = some (.int .i64 23) ∧ u.cell? ⟨u1.heap.size, 8, none⟩ = some (.int .i64 64) ∧ u.cell? ⟨u1.heap.size, 9, none⟩ = some (.int .i64 (E : Int)) ∧ u.cell? ⟨u1.heap.size, 10, none⟩ = some (.int .i64 (S0 : Int)) ∧ u.cell? ⟨u1.heap.size, 11, none⟩ = some (.int .i64 (t : Int)) ∧ u.cell? ⟨u1.heap.size + 1, 0, none⟩ = some (.slice av xs.length cv) ∧ u.cell? ⟨u1.heap.size + 1 + 1, 0, none⟩ = some (.int .i64 (tot xs : Int)))
      (first | with_reducible exact HS.out _ Bd | with_reducible exact HS.out _ BW | exact HS2.out _ _ _ (by omega) (HS.out _ BW) | exact HS2.out _ _ _ (by omega) (HS2.out _ _ _ (by omega) (HS.out _ BW)) | exact HS2.out _ _ _ (by omega) (HS2.out _ _ _ (by omega) (HS2.out _ _ _ (by omega) (HS.out _ BW))))
      (first
        | (go_at_call 207; refine Calls.mono cP ?_; rintro r u7 ⟨rfl, bW⟩; have BW : Below W.heap.size W u7 := Bd.trans (bW.mono Bd.size); have z2 := (show Box u7 (w.heap.size + 1 + 1) _ 161 from p2.below BW).cell 0; have z2f := (show Box u7 (w.heap.size + 1 + 1) _ 161 from p2.below BW).frozen 0; have z3 := (show Box u7 (w.heap.size + 1 + 1 + 1) _ 3 from p3.below BW).cell 0; have z3f := (show Box u7 (w.heap.size + 1 + 1 + 1) _ 3 from p3.below BW).frozen 0; have z4 := (show Box u7 (w.heap.size + 1 + 1 + 1 + 1) _ 26 from p4.below BW).cell 0; have z4f := (show Box u7 (w.heap.size + 1 + 1 + 1 + 1) _ 26 from p4.below BW).frozen 0; simp only [List.getElem?_toArray, List.getElem?_cons_zero] at z2 z3 z4))
    obtain ⟨V, hV⟩ : ∃ V, V = (((u7.setCell ⟨w.heap.size + 1 + 1, 0, none⟩ (.slice av xs.length cv)).setCell ⟨w.heap.size + 1 + 1 + 1, 0, none⟩ (.int .i64 (((t : Int) + (tot xs : Int)) % 16))).setCell ⟨w.heap.size + 1 + 1 + 1 + 1, 0, none⟩ (.int .i64 0)) := ⟨_, rfl⟩
    rw [← hV]
    have hot : ∀ k, k ≠ w.heap.size + 1 + 1 → k ≠ w.heap.size + 1 + 1 + 1 → k ≠ w.heap.size + 1 + 1 + 1 + 1 → V.heap[k]? = u7.heap[k]? := fun k h1 h2 h3 => by
      rw [hV]
      exact (heap_setCell_other _ ⟨w.heap.size + 1 + 1 + 1 + 1, 0, none⟩ k _ h3).trans ((heap_setCell_other _ ⟨w.heap.size + 1 + 1 + 1, 0, none⟩ k _ h2).trans (heap_setCell_other _ ⟨w.heap.size + 1 + 1, 0, none⟩ k _ h1))
    have hDl := (Array.getElem?_eq_some_iff.1 hdf).1
    have hu2 := BU2.size
    have hT9 := HT.out
    have hK' : V.heap[D']? = some (.deferred (some [])) := (hot D' (by omega) (by omega) (by omega)).trans ((BW.block D' hDl).trans hdf)
    have q2 : Box u7 (w.heap.size + 1 + 1) #[.slice none 0 0] 161 := p2.below BW
    have q3 : Box u7 (w.heap.size + 1 + 1 + 1) #[.int .i64 0] 3 := p3.below BW
    have q4 : Box u7 (w.heap.size + 1 + 1 + 1 + 1) #[.int .i64 0] 26 := p4.below BW
    have t2 : V.cell? ⟨w.heap.size + 1 + 1, 0, none⟩ = some (.slice av xs.length cv) := by
      rw [hV]
      have h := q2.store 0 (.slice av xs.length cv)
      simp at h
      have h' := World.cell?_of_block (a := ⟨w.heap.size + 1 + 1, 0, none⟩) ((heap_setCell_other _ ⟨w.heap.size + 1 + 1 + 1 + 1, 0, none⟩ (w.heap.size + 1 + 1) (.int .i64 0) (by show w.heap.size + 1 + 1 ≠ w.heap.size + 1 + 1 + 1 + 1; omega)).trans (heap_setCell_other (u7.setCell ⟨w.heap.size + 1 + 1, 0, none⟩ (.slice av xs.length cv)) ⟨w.heap.size + 1 + 1 + 1, 0, none⟩ (w.heap.size + 1 + 1) (.int .i64 (((t : Int) + (tot xs : Int)) % 16)) (by show w.heap.size + 1 + 1 ≠ w.heap.size + 1 + 1 + 1; omega)))
      exact h'.trans (Dk.Box.cell h 0)
    have t3 : V.cell? ⟨w.heap.size + 1 + 1 + 1, 0, none⟩ = some (.int .i64 (((t : Int) + (tot xs : Int)) % 16)) := by
      rw [hV]
      have q3' : Box (u7.setCell ⟨w.heap.size + 1 + 1, 0, none⟩ (.slice av xs.length cv)) (w.heap.size + 1 + 1 + 1) #[.int .i64 0] 3 := (heap_setCell_other u7 ⟨w.heap.size + 1 + 1, 0, none⟩ (w.heap.size + 1 + 1 + 1) _ (by show w.heap.size + 1 + 1 + 1 ≠ w.heap.size + 1 + 1; omega)).trans q3
      have h := q3'.store 0 (.int .i64 (((t : Int) + (tot xs : Int)) % 16))
      simp at h
      exact (World.cell?_of_block (a := ⟨w.heap.size + 1 + 1 + 1, 0, none⟩) (heap_setCell_other _ ⟨w.heap.size + 1 + 1 + 1 + 1, 0, none⟩ (w.heap.size + 1 + 1 + 1) (.int .i64 0) (by show w.heap.size + 1 + 1 + 1 ≠ w.heap.size + 1 + 1 + 1 + 1; omega))).trans (Dk.Box.cell h 0)
    have t4 : V.cell? ⟨w.heap.size + 1 + 1 + 1 + 1, 0, none⟩ = some (.int .i64 0) := by
      rw [hV]
      exact World.cell?_setCell_same' _ _ _ (by
        rw [World.cell?_of_block (a := ⟨w.heap.size + 1 + 1 + 1 + 1, 0, none⟩) ((heap_setCell_other _ ⟨w.heap.size + 1 + 1 + 1, 0, none⟩ (w.heap.size + 1 + 1 + 1 + 1) _ (by show w.heap.size + 1 + 1 + 1 + 1 ≠ w.heap.size + 1 + 1 + 1; omega)).trans (heap_setCell_other u7 ⟨w.heap.size + 1 + 1, 0, none⟩ (w.heap.size + 1 + 1 + 1 + 1) _ (by show w.heap.size + 1 + 1 + 1 + 1 ≠ w.heap.size + 1 + 1; omega))), q4.cell 0]
        rfl)
    have hBV : Below w.heap.size w V := by
      rw [hV]
      exact (((hbel.trans (BW.mono hbel.size)).setCell (p := ⟨w.heap.size + 1 + 1, 0, none⟩) (by show w.heap.size ≤ w.heap.size + 1 + 1; omega) _).setCell (p := ⟨w.heap.size + 1 + 1 + 1, 0, none⟩) (by show w.heap.size ≤ w.heap.size + 1 + 1 + 1; omega) _).setCell (p := ⟨w.heap.size + 1 + 1 + 1 + 1, 0, none⟩) (by show w.heap.size ≤ w.heap.size + 1 + 1 + 1 + 1; omega) _
    have hkp : ∀ k cs (ty : TypeId), Box W k cs ty → ty = 203 ∨ ty = 89 ∨ ty = 5 → (V.putObj D' (.deferred none)).heap[k]? = W.heap[k]? := fun k cs ty hb hty => by
      have hb7 := hb.below BW
      have n1 : k ≠ D' := fun e => by
        subst e
        have hb' : W.heap[k]? = some (.cells cs ty) := hb
        rw [hb'] at hdf
        cases hdf
      refine (World.putObj_heap_other n1).trans ((hot k (fun e => ?_) (fun e => ?_) (fun e => ?_)).trans (BW.block k hb.lt))
      · subst e; rcases hty with rfl | rfl | rfl <;> exact hb7.ne q2 (by decide) rfl
      · subst e; rcases hty with rfl | rfl | rfl <;> exact hb7.ne q3 (by decide) rfl
      · subst e; rcases hty with rfl | rfl | rfl <;> exact hb7.ne q4 (by decide) rfl
    have c2 := cell_kept t2 (grownBy_putObj' _ D' (.deferred none)) (fun r e => by cases e; exact ⟨_, hK', rfl⟩)
    have c3 := cell_kept t3 (grownBy_putObj' _ D' (.deferred none)) (fun r e => by cases e; exact ⟨_, hK', rfl⟩)
    have c4 := cell_kept t4 (grownBy_putObj' _ D' (.deferred none)) (fun r e => by cases e; exact ⟨_, hK', rfl⟩)
    clear hV hot t2 t3 t4
    gi_wp2
    refine ⟨by simp, .inl ⟨_, _, rfl, run_takeDeferred hK', ?_⟩⟩
    refine ⟨.tuple #[.slice av xs.length cv, .int .i64 (((t : Int) + (tot xs : Int)) % 16), .int .i64 0], ?_, ⟨xs, av, cv, by push_cast; rfl, hR, J.owns_kept hown (fun k e => ?_), fun y hy => (hall y hy).kept (fun k cs ty hb ht => hkp k cs ty hb (.inr ht)), hBV.trans (belowK_b (w := w) (Nat.le_refl _) _ D' _ _ (by omega) hK' rfl rfl)⟩⟩
    · simp [results, Tryz.f160, go_sem, c2, c3, c4]
    · obtain ⟨_, cur, hb⟩ := Rc.owns_block hown k e
      exact hkp k _ _ hb (.inl rfl)
end Go.Proofs.YtnldkpckojhbhaaGreat.S

/-
  Mount of a disk whose ring has no groups; fresh.
-/
namespace Go.Proofs.YtnldkpckojhbhaaGreat.V
open Go.RowKit
open Go.Proofs.YtnldkpckojhbhaaGreat.Dk (Box DS IsDisk Upd Rd RowB nought)
open Go.Proofs.YtnldkpckojhbhaaGreat.H (MapI doR doD)
open Go.Proofs.YtnldkpckojhbhaaGreat.Su (getSuper)

/-- Home of no groups -/
theorem home_nil (w : World) (ga : Option Addr) (gc : Nat) : Calls Tryz.prog 161 #[.agg #[.int .i64 64, .int .i64 2, .int .i64 16, .int .i64 18, .int .i64 19, .int .i64 4, .int .i64 23], .slice ga 0 gc] w fun r w' => ∃ a c, r = .returned (.tuple #[.slice a 0 c, .int .i64 0]) ∧ (∀ ad, a = some ad → w.heap.size ≤ ad.block) ∧ Below w.heap.size w w' := by
  have c := H.home_at w ga 0 gc [] [] rfl (by decide) (fun h => absurd h (by decide)) rfl (fun p hp => (by cases hp)) (fun p hp => (by cases hp))
  refine c.mono ?_
  rintro r w' ⟨a, c, ks, qs, rfl, h, b⟩
  have : ks = [] := by
    cases ks with
    | nil => rfl
    | cons x r => exact absurd ((h.keys x).1 (List.mem_cons_self ..)) (by simp [H.pl, H.lastD])
  subst this
  have hi := (h.imsD (fun i => i < w.heap.size) (fun i h => h)).1.out
  exact ⟨a, c, rfl, fun ad e => Nat.le_of_not_lt (hi ad e), b⟩
/-- Groups of a ring of noughts -/
theorem groups_zero {g : Nat} {w : World} {D : DS} {F : Nat → Prop} {f : Nat → List UInt8} {n : Nat} (hd : IsDisk w g D F) (h : Mq D f n) (hu : D.uf.length ≤ 1000000) (hf : ∀ k, 2 ≤ k → k < 18 → f k = nought 4096) (E S0 : Nat) (hE : 1 ≤ E ∧ E ≤ 8388608) (hS : 1 ≤ S0 ∧ S0 ≤ 549755813888) :
    Calls Tryz.prog 160 #[.pointer (some ⟨g, 0, none⟩), .agg #[.int .i64 64, .int .i64 2, .int .i64 16, .int .i64 18, .int .i64 19, .int .i64 4, .int .i64 23], .agg #[.int .i64 64, .int .i64 (E : Int), .int .i64 (S0 : Int), .int .i64 0]] w fun r w' => ∃ ga gc, r = .returned (.tuple #[.slice ga 0 gc, .int .i64 0, .int .i64 0]) ∧ Below w.heap.size w w' := by
  refine (S.groups_at hd h.nb h.calm.1 hu 0 E S0 (by decide) hE hS).mono ?_
  rintro r w' ⟨xs, a, c, rfl, hr, _, _, b⟩
  obtain rfl := run_zero h hf hr
  exact ⟨a, c, rfl, b⟩
theorem put_ok (E S0 : Nat) (hE : 1 ≤ E ∧ E ≤ 8388608) (hS : 1 ≤ S0 ∧ S0 ≤ 549755813888) : Su.putSuper 64 E S0 0 = some (Su.superB 64 E S0 0) := by
  unfold Su.putSuper
  have : Su.rightS 64 E S0 0 = true := by
    unfold Su.rightS Su.wi
    simp
    omega
  rw [if_pos this]
  rfl
theorem mount_zero {g : Nat} {w : World} {D : DS} {F : Nat → Prop} {f : Nat → List UInt8} {n : Nat} (hd : IsDisk w g D F) (h : Mq D f n) (hn : n ≤ 800000) (hu : D.uf.length ≤ 800000) (hf : ∀ k, 2 ≤ k → k < 18 → f k = nought 4096) (hl0 : (f 0).length = 4096) (hl1 : (f 1).length = 4096) (E S0 : Nat) (k : Int) (s : Nat) (hE : 1 ≤ E ∧ E < 8388608) (hS : 1 ≤ S0 ∧ S0 ≤ 549755813888) (hk : k = 0 ∧ s = 1 ∨ k = 1 ∧ s = 0) (hch : H.choose (getSuper (f 0)) (getSuper (f 1)) = (⟨64, E, S0, 0⟩, k, true)) :
    Calls Tryz.prog 19 #[.pointer (some ⟨g, 0, none⟩)] w fun r w' => ∃ v j gm F' D', r = .returned (.tuple #[.pointer (some ⟨v, 0, none⟩), .int .i64 0]) ∧ VW w' v g j gm (E + 1 : Nat) false (J.opened 64 (E + 1 : Nat) S0 0) [] D' 0 (fun _ => none) F' ∧ Mq D' (upd f s (Su.superB 64 (E + 1) S0 0)) (n + 1) ∧ D'.uf = [] ∧ (∀ i, F' i → F i ∨ w.heap.size ≤ i) ∧ w.heap.size ≤ v ∧ w.heap.size ≤ gm ∧ Upd F w w' := by
  have hes : (1 - k : Int) = (s : Int) := by rcases hk with ⟨rfl, rfl⟩ | ⟨rfl, rfl⟩ <;> rfl
  have hs1 : s ≤ 1 := by omega
  have q0 := h.at_ 0 (by decide)
  have q1 := h.at_ 1 (by decide)
  have cF : ∀ u, Below w.heap.size w u → Calls Tryz.prog 90 #[.pointer (some ⟨g, 0, none⟩), .agg #[.int .i64 64, .int .i64 2, .int .i64 16, .int .i64 18, .int .i64 19, .int .i64 4, .int .i64 23]] u fun r w' => ∃ a n c, r = .returned (.tuple #[.agg #[.slice a n c, .int .i64 64, .int .i64 ((E + 1 : Nat) : Int), .int .i64 (S0 : Int), .int .i64 0, .int .i64 (s : Int)], .int .i64 0]) ∧ (fun a n _ _ => n = 0 ∧ ∀ ad : Addr, a = some ad → w.heap.size ≤ ad.block) a n c w' ∧ Below u.heap.size u w' := fun u bu => by
    have c := find_in (hd.below bu) h.nb h.calm.1 (by omega) E S0 0 k 0 (by rw [q0, q1]; exact hch) (by omega) (by omega) (by decide) (by omega) 0 (by omega) (by decide) (by rw [q0]; exact hl0) (by rw [q1]; exact hl1) (fun _ _ _ => True) (fun a n _ _ => n = 0 ∧ ∀ ad : Addr, a = some ad → w.heap.size ≤ ad.block)
      (fun x bx => (groups_zero ((hd.below bu).below bx) h (by omega) hf E S0 (by omega) hS).mono (fun r w' hh => by
        obtain ⟨ga, gc, h1, h2⟩ := hh
        exact ⟨ga, gc, h1, trivial, h2⟩))
      (fun x ga gc _ hz => (home_nil x ga gc).mono (fun r w' hh => by
        obtain ⟨a, c, h1, h3, h2⟩ := hh
        exact ⟨a, 0, c, h1, ⟨rfl, fun ad e => by have := h3 ad e; have := bu.size; omega⟩, h2⟩))
      (fun a n c x x' hx _ _ => hx)
    rw [hes, show (S0 : Int) + ((0 : Nat) : Int) = S0 by omega, show (E : Int) + 1 = ((E + 1 : Nat) : Int) by omega] at c
    exact c
  have hdo := h.do_ [] (fun p hp => (by cases hp)) s (by omega) (Su.superB 64 (E + 1) S0 0) (Su.superB_length _ _ _ _)
  obtain ⟨d1, d2, d3⟩ := hdo
  have c := mount_in hd h.nb ⟨hu, by have := h.cnt; omega⟩ ((E + 1 : Nat) : Int) S0 0 s (by omega) (by omega) (by decide) _ (put_ok (E + 1) S0 (by omega) hS) (doD [] (s : Int) (Su.superB 64 (E + 1) S0 0) D).1 d2.nb (fun a n _ _ => n = 0 ∧ ∀ ad : Addr, a = some ad → w.heap.size ≤ ad.block) cF (fun _ _ _ _ _ h _ => h) (fun a n c u hp bu => ⟨[], hp.1.symm, by have : n = 0 := hp.1; omega, ⟨fun hh => absurd hh (by decide), fun p hp => (by cases hp), fun ad e hf => by have := hp.2 ad e; have := hd.flt _ hf; omega⟩, by
    unfold doR
    dsimp only
    rw [if_pos (by unfold Su.wi; simp; omega)]
    exact Prod.ext rfl d1⟩)
  refine c.mono ?_
  rintro r w' ⟨v, j, gm, F', rfl, hv, hF, hvl, hgl, hU⟩
  exact ⟨v, j, gm, F', _, rfl, ⟨_, hv, fun k => rfl⟩, d2, d3, hF, hvl, hgl, hU⟩
end Go.Proofs.YtnldkpckojhbhaaGreat.V

/-
  The law of volume: its images (JImg has them).
-/


/-
  fresh, has, a Commit of images that were made, the chapter's examples.
-/
namespace Go.Proofs.YtnldkpckojhbhaaGreat.V
open Go.RowKit
open Go.Proofs.YtnldkpckojhbhaaGreat.Dk (Box DS IsDisk Upd Rd RowB nought)
open Go.Proofs.YtnldkpckojhbhaaGreat.H (MapI doR doD)
open Go.Proofs.YtnldkpckojhbhaaGreat.Su (getSuper)
open Go.Proofs.YtnldkpckojhbhaaGreat.Rc (GG GetJ imgC Imgs madeL)

theorem upd_low {F : Nat → Prop} {w w1 w2 : World} (b : Below w.heap.size w w1) (h : Upd F w1 w2) (hF : ∀ i, F i → w.heap.size ≤ i) : Below w.heap.size w w2 :=
  b.trans ⟨h.os, h.tape, h.output, h.size, fun k hk => h.block k (Nat.lt_of_lt_of_le hk b.size) (fun hf => by have := hF k hf; omega)⟩
theorem f1_zero (k : Nat) (h : 2 ≤ k) : f1 k = nought 4096 := by
  unfold f1 upd
  rw [if_neg (by omega)]
theorem f2_zero (k : Nat) (h : 2 ≤ k) : f2 k = nought 4096 := by
  unfold f2 upd
  rw [if_neg (by omega)]
  exact f1_zero k h
theorem new64 (N : Nat) (hN : N = 64 * 4096) (w : World) : Calls Tryz.prog 33 #[.int .i64 64] w fun e w' => ∃ g F, e = .returned (.tuple #[.pointer (some ⟨g, 0, none⟩), .int .i64 0]) ∧ IsDisk w' g (DS.new 64 (nought N)) F ∧ (∀ i, F i → w.heap.size ≤ i) ∧ Below w.heap.size w w' := by
  have c := Dk.new_at 64 w (by decide) (by decide)
  rw [← hN] at c
  refine c.mono ?_
  rintro r w' ⟨g, h1, F, h2, h3, h4⟩
  exact ⟨g, F, h1, h2, h3, h4⟩
set_option maxRecDepth 100000 in
theorem fresh_at (w : World) : Calls Tryz.prog 14 #[] w fun r w' => ∃ g v j gm F D, r = .returned (.tuple #[.pointer (some ⟨g, 0, none⟩), .pointer (some ⟨v, 0, none⟩), .bool true]) ∧ VW w' v g j gm 2 false (J.opened 64 2 1 0) [] D 0 (fun _ => none) F ∧ Mq D f2 24 ∧ D.uf = [] ∧ (∀ i, F i → w.heap.size ≤ i) ∧ w.heap.size ≤ v ∧ w.heap.size ≤ gm ∧ Below w.heap.size w w' := by
  obtain ⟨N, hN⟩ : ∃ N, N = 64 * 4096 := ⟨_, rfl⟩
  have cN := new64 N hN w
  have hm := fmt_new N hN
  obtain ⟨D0, hD0⟩ : ∃ D, D = DS.new 64 (nought N) := ⟨_, rfl⟩
  have h0 : D0.nb = 64 ∧ D0.uf.length ≤ 800000 ∧ D0.n ≤ 800000 := by
    rw [hD0]
    exact ⟨rfl, Nat.zero_le _, Nat.zero_le _⟩
  rw [← hD0] at hm cN
  clear hD0 hN
  go_enter Tryz.func14, Tryz.ntmps14
  go_wp2_with fail
  refine Calls.mono cN ?_
  rintro r wu1 ⟨g, F, rfl, hd, hF, b1⟩
  have cF := format_at hd h0.1 h0.2
  rw [hm.1] at cF
  clear cN h0
  go_wp2_with fail
  refine Calls.mono cF ?_
  rintro r wu2 ⟨rfl, ⟨F2, hd2, hF2⟩, U2⟩
  have B2 := upd_low b1 U2 hF
  have hF2' : ∀ i, F2 i → w.heap.size ≤ i := fun i hi => by
    rcases hF2 i hi with h | h
    · exact hF i h
    · have := b1.size; omega
  have cM := mount_zero hd2 hm.2.1 (by decide) (by rw [hm.2.2]; decide) (fun k h1 _ => f1_zero k h1) (Su.superB_length 64 1 1 0) (Dk.nought_length 4096) 1 1 0 1 (by decide) (by decide) (.inl ⟨rfl, rfl⟩) ch1
  clear cF hm hF2 U2 hF b1 hd
  go_wp2_with fail
  refine Calls.mono cM ?_
  rintro r wu3 ⟨v, j, gm, F3, D3, rfl, hv, hq, hu, hF3, hvl, hgl, U3⟩
  have B3 := upd_low B2 U3 hF2'
  have HV : Hid (VW wu3 v g j gm 2 false (J.opened 64 2 1 0) [] D3 0 (fun _ => none) F3) := hv
  have HQ : Hid (Mq D3 f2 24) := hq
  have hF3' : ∀ i, F3 i → w.heap.size ≤ i := fun i hi => by
    rcases hF3 i hi with h | h
    · exact hF2' i h
    · have := B2.size; omega
  have hvl2 : w.heap.size ≤ v := Nat.le_trans B2.size hvl
  have hgl2 : w.heap.size ≤ gm := Nat.le_trans B2.size hgl
  clear cM hv hq hF3
  go_wp2_with fail
  exact bodyPost_ret (v := .tuple #[.pointer (some ⟨g, 0, none⟩), .pointer (some ⟨v, 0, none⟩), .bool true]) (by simp [results, Tryz.results14, go_sem]) rfl ⟨g, v, j, gm, F3, D3, rfl, HV.out, HQ.out, hu, hF3', hvl2, hgl2, B3⟩

theorem has_at {w : World} {v : Nat} {n : Int} {zs : List UInt8} (cR : Calls Tryz.prog 24 #[.pointer (some ⟨v, 0, none⟩), .int .i64 n] w fun r w' => ∃ g c, r = .returned (.tuple #[.slice (some ⟨g, 0, none⟩) 4096 c, .int .i64 0]) ∧ w.heap.size ≤ g ∧ RowB w' g c zs ∧ Below w.heap.size w w') (hz : zs.length = 4096) (a : Option Addr) (c : Nat) (hr : Rd w a zs) :
    Calls Tryz.prog 20 #[.pointer (some ⟨v, 0, none⟩), .int .i64 n, .slice a 4096 c] w fun r w' => r = .returned (.bool true) ∧ Below w.heap.size w w' := by
  have HR : Hid (Rd w a zs) := hr
  clear hr
  go_enter Tryz.func20, Tryz.ntmps20
  go_wp2_with fail
  refine Calls.mono cR ?_
  rintro r wu1 ⟨g1, c1, rfl, hg, hr1, b1⟩
  have cS := Dk.same_at c1 c 4096 4096 (some ⟨g1, 0, none⟩) a zs zs wu1 hz hz hr1.rd (HR.out.below b1 (Nat.le_refl _))
  rw [show (zs == zs) = true by simp] at cS
  clear cR hr1
  go_wp2_with fail
  refine Calls.mono cS ?_
  rintro r w' ⟨rfl, rfl⟩
  clear cS
  go_wp2_with fail
  exact bodyPost_ret (v := .bool true) (by simp [results, Tryz.results20, go_sem]) rfl ⟨rfl, b1⟩

/-- images that were made lie where nothing else is -/
theorem made_out {u : World} {B n : Nat} {a : Option Addr} {c : Nat} {qs : List GG} {is : List (Int × List UInt8)} (ho : u.ownsRow B 89 2 (.slice a n c) n (imgC qs)) (hg : GetJ B u qs) (hq : qs.map (fun p => (p.b, p.xs)) = is) (hl : is.length = n) (h0 : 0 < n) :
    Imgs u a is ∧ (∀ ad : Addr, a = some ad → B ≤ ad.block) ∧ ∀ k (hk : k < is.length) (b o : Nat) (x : Option Addr) (c : Nat), a = some ⟨b, o, none⟩ → u.cell? ⟨b, o + k * 2 + 1, none⟩ = some (.slice x is[k].2.length c) → ∀ ad, x = some ad → B ≤ ad.block := by
  have hn : qs.length = n := by rw [← hl, ← hq]; simp
  have h1 := Rc.imgs_of ho hg hn
  rw [hq] at h1
  obtain ⟨g, rfl, hB, _, hc⟩ := Rc.owns_cells ho h0
  refine ⟨h1, fun ad e => by injection e with e; rw [← e]; exact hB, fun k hk b o x c e hcell ad ex => ?_⟩
  injection e with e
  injection e with e1 e2
  subst e1 e2
  have hk2 : k < qs.length := by omega
  rw [show 0 + k * 2 + 1 = k * 2 + 1 by omega, hc _ (by omega), (Rc.imgC_at qs k hk2).2] at hcell
  injection hcell with hcell
  injection hcell with q1 q2 q3
  rw [ex] at q1
  injection q1 with q1
  rw [← q1]
  exact (hg.rows _ (List.getElem_mem hk2)).2.1
end Go.Proofs.YtnldkpckojhbhaaGreat.V

/-
  The chapter's examples.
-/
namespace Go.Proofs.YtnldkpckojhbhaaGreat.V
open Go.RowKit
open Go.Proofs.YtnldkpckojhbhaaGreat.Dk (Box DS IsDisk Upd Rd RowB nought)
open Go.Proofs.YtnldkpckojhbhaaGreat.Rc (GG GetJ imgC Imgs madeL)
section
variable {A : Nat → Prop} {w u : World} {v dg j gm : Nat} {ep : Int} {br : Bool} {S : J.JS} {xs : List Int} {D : DS} {cn : Nat} {dat : Int → Option (List UInt8)} {F : Nat → Prop}
theorem next_vw (h : VWA A w v dg j gm ep br S xs D cn dat F) : Calls Tryz.prog 22 #[.pointer (some ⟨v, 0, none⟩)] w fun e w' => e = .returned (.int .i64 S.next) ∧ w = w' := by
  obtain ⟨m, h1, _⟩ := h
  obtain ⟨vs, Fd, hj, _⟩ := h1.jd.ex
  exact next_at h1.box hj
theorem synced_vw (h : VWA A w v dg j gm ep br S xs D cn dat F) : Calls Tryz.prog 23 #[.pointer (some ⟨v, 0, none⟩)] w fun e w' => e = .returned (.int .i64 S.synced) ∧ w = w' := by
  obtain ⟨m, h1, _⟩ := h
  obtain ⟨vs, Fd, hj, _⟩ := h1.jd.ex
  exact synced_at h1.box hj
/-- a Commit of images that were made behind it all -/
theorem commit_made (h : VWA A w v dg j gm ep false S xs D cn dat F) (hA : ∀ i, A i → i < u.heap.size) (b : Below w.heap.size w u) {B n c : Nat} {a : Option Addr} {qs : List GG} {is : List (Int × List UInt8)} (hB : w.heap.size ≤ B) (ho : u.ownsRow B 89 2 (.slice a n c) n (imgC qs)) (hg : GetJ B u qs) (hq : qs.map (fun p => (p.b, p.xs)) = is) (hl : is.length = n)
    (hG : MayG is) (hBl : ∀ i ∈ is, 18 ≤ i.1 ∧ i.1 ≤ 63) (h15 : n ≤ 15) (hok : Rc.okGroup S.epoch S.next is) (hJb : S.broken = false) (hR : Rg.R S.S S.T S.U S.H) (hS16 : S.S = 16) (hH : S.H = 0) (hroom : S.U + ((n : Int) + 1) ≤ 16) (hlog : S.log = 2) (hc : J.Calm D) (hnb : D.nb = 64) (hd1 : D.uf.length ≤ 900000) (hd2 : D.n ≤ 900000) (hx : xs.length ≤ 1000) (hcn : cn ≤ 100000) :
    Calls Tryz.prog 15 #[.pointer (some ⟨v, 0, none⟩), .slice a n c] u fun r w' => r = .returned (.tuple #[.int .i64 S.next, .int .i64 0]) ∧ ∃ F', VWA A w' v dg j gm ep false { S with next := S.next + 1, U := S.U + (n + 1 : Nat), H := S.H - 0 } (xs ++ [((n + 1 : Nat) : Int)]) (J.grow D S.S.toNat ((S.T + S.U) % S.S).toNat (Rc.putL S.epoch.toNat S.next.toNat is) (n + 1)) (cn + n) (dats dat is) F' ∧ (∀ i, F' i → F i ∨ u.heap.size ≤ i) ∧ Upd (fun i => F i ∨ i = gm) u w' := by
  have h0 : 0 < n := by have := hG.lo; omega
  obtain ⟨hI, o1, o2⟩ := made_out ho hg hq hl h0
  have hlt := h.vlt
  have hfl : ∀ i, F i ∨ i = gm → i < w.heap.size := fun i hi => by
    rcases hi with hi | hi
    · obtain ⟨m, h1, _⟩ := h
      exact h1.jd.flt i hi
    · rw [hi]; exact hlt.2
  have hno : ∀ i, B ≤ i → ¬ F i ∧ i ≠ gm := fun i hi => ⟨fun hf => by have := hfl i (.inl hf); omega, fun e => by have := hfl i (.inr e); omega⟩
  exact commit_ok (h.below b) hA a n c is hl hI (fun ad e => hno _ (o1 ad e)) (fun k hk b o x c e1 e2 ad e3 => hno _ (o2 k hk b o x c e1 e2 ad e3)) hG hBl h15 hok hJb hR hS16 hH hroom hlog hc hnb hd1 hd2 hx hcn
/-- nothing was committed since: it lies wherever -/
theorem VWA.wide (h : VWA A w v dg j gm ep br S xs D cn (fun _ => none) F) (A' : Nat → Prop) : VWA A' w v dg j gm ep br S xs D cn (fun _ => none) F := by
  obtain ⟨m, h1, h2⟩ := h
  exact ⟨m, h1, h2⟩
/-- what lies in A, and what is new, may change -/
theorem VWA.kept (h : VWA A w v dg j gm ep br S xs D cn dat F) (hk : ∀ i, i < w.heap.size → ¬ A i → u.heap[i]? = w.heap[i]?) (hA : ∀ i, A i → ¬ F i ∧ i ≠ v ∧ i ≠ gm) (hs : w.heap.size ≤ u.heap.size) : VWA A u v dg j gm ep br S xs D cn dat F := by
  have hl := h.vlt
  obtain ⟨m, h1, h2⟩ := h
  refine ⟨m, ⟨(hk v hl.1 (fun q => (hA v q).2.1 rfl)).trans h1.box, h1.jd.kept (fun i hi => hk i (h1.jd.flt i hi) (fun q => (hA i q).1 hi)) hs, mapI_same h1.map (hk gm hl.2 (fun q => (hA gm q).2.2 rfl)), h1.nv, h1.nm, h1.ne⟩, fun k => (h2 k).kept (fun i hi h3 _ => hk i hi (fun q => h3 (.inr q))) (fun _ _ h => h)⟩
end
/-- the first example's images -/
def is5 : List (Int × List UInt8) := J.imgL [30, 31] 5 2
theorem is5_eq : is5 = [(30, madeL 5 4096), (31, madeL 2 4096)] := rfl
set_option maxRecDepth 100000 in
theorem is5_ok : MayG is5 ∧ (∀ i ∈ is5, 18 ≤ i.1 ∧ i.1 ≤ 63) ∧ Rc.okGroup 2 1 is5 := by
  have hlen : ∀ i ∈ is5, i.2.length = 4096 := fun i hi => by
    rw [is5_eq] at hi
    rcases List.mem_cons.1 hi with h | h
    · rw [h]; exact Rc.madeK_length 5 4096 4096
    · rw [List.mem_singleton.1 h]; exact Rc.madeK_length 2 4096 4096
  have hm : is5.map (·.1) = [30, 31] := rfl
  have hin : ∀ i ∈ is5, i.1 = 30 ∨ i.1 = 31 := fun i hi => by
    have : i.1 ∈ is5.map (·.1) := List.mem_map_of_mem hi
    rw [hm] at this
    simpa using this
  refine ⟨⟨by decide, by decide, hlen, by rw [hm]; decide, fun i hi => ?_⟩, fun i hi => ?_, ?_, hlen⟩
  · rcases hin i hi with h | h <;> rw [h] <;> rfl
  · have := hin i hi; omega
  · rw [hm]
    refine ⟨rfl, by decide, ?_⟩
    intro j h _
    match j, h with
    | 0, _ => simp
    | 1, _ => simp
set_option maxRecDepth 100000 in
theorem awake_at (w : World) : Calls Tryz.prog 32 #[] w fun r w' => r = .returned (.bool true) ∧ Below w.heap.size w w' := by
  have c0 := fresh_at w
  go_enter Tryz.func32, Tryz.ntmps32
  go_wp2_with fail
  refine Calls.mono c0 ?_
  rintro r wu1 ⟨g, v, j, gm, F, D, rfl, hv, hq, hu, hFl, _, hgl, B1⟩
  have HB1 : Hid ((∀ i, F i → w.heap.size ≤ i) ∧ w.heap.size ≤ gm ∧ Below w.heap.size w wu1) := ⟨hFl, hgl, B1⟩
  have cN := next_vw hv
  have cS := synced_vw hv
  rw [show (J.opened 64 2 1 0).next = 1 by rfl] at cN
  rw [show (J.opened 64 2 1 0).synced = 0 by rfl] at cS
  have HV : Hid (VW wu1 v g j gm 2 false (J.opened 64 2 1 0) [] D 0 (fun _ => none) F) := hv
  have HQ : Hid (Mq D f2 24 ∧ D.uf = []) := ⟨hq, hu⟩
  clear c0 hv hq hu hFl hgl B1
  go_wp2_with fail
  refine Calls.mono cN ?_
  rintro r w' ⟨rfl, rfl⟩
  go_wp2_with fail
  refine Calls.mono cS ?_
  rintro r w' ⟨rfl, rfl⟩
  clear cN cS
  go_wp2_with fail
  have b0 := (Below.refl wu1.heap.size wu1).alloc (Nat.le_refl _) (.cells #[.int .i64 30, .int .i64 31] 3)
  have x0 := Box.new wu1 #[.int .i64 30, .int .i64 31] 3
  obtain ⟨W0, hW0⟩ : ∃ W, W = wu1.alloc (.cells #[.int .i64 30, .int .i64 31] 3) := ⟨_, rfl⟩
  rw [← hW0] at b0 x0 ⊢
  have cI := J.images_at W0 wu1.heap.size 0 2 2 5 [30, 31] rfl (by decide) (by decide) (fun k hk => by
    match k, hk with
    | 0, _ => exact x0.cell 0
    | 1, _ => exact x0.cell 1)
  refine Calls.mono cI ?_
  rintro r wu2 ⟨a, c, qs, rfl, ho, hg, hqs, b2⟩
  have cC := commit_made HV.out (fun _ h => h.elim) (b0.trans (b2.mono b0.size)) b0.size ho hg hqs (is := is5) rfl is5_ok.1 is5_ok.2.1 (by decide) is5_ok.2.2 rfl (by decide) rfl rfl (by decide) rfl HQ.out.1.calm HQ.out.1.nb (by rw [HQ.out.2]; decide) (by have := HQ.out.1.cnt; omega) (by decide) (by decide)
  rw [show (J.opened 64 2 1 0).next = 1 by rfl] at cC
  have HB2 : Hid (Below w.heap.size w wu2) := HB1.out.2.2.trans ((b0.trans (b2.mono b0.size)).mono HB1.out.2.2.size)
  clear cI ho hg hqs b2 b0 x0 hW0 HV
  go_wp2_with fail
  refine Calls.mono cC ?_
  rintro r wu3 ⟨rfl, F3, hv3, hF3, U3⟩
  have HB3 : Hid (Below w.heap.size w wu3) := upd_low HB2.out U3 (fun i hi => by
    rcases hi with h | h
    · exact HB1.out.1 i h
    · rw [h]; exact HB1.out.2.1)
  have HF3 : Hid (∀ i, F3 i → w.heap.size ≤ i) := fun i hi => by
    rcases hF3 i hi with h | h
    · exact HB1.out.1 i h
    · have := HB2.out.size; omega
  obtain ⟨D3, hD3⟩ : ∃ X, X = J.grow D 16 0 (Rc.putL 2 1 is5) 3 := ⟨_, rfl⟩
  have HV3 : Hid (∃ S xs, VW wu3 v g j gm 2 false S xs D3 2 (dats (fun _ => none) is5) F3) := ⟨_, _, by rw [hD3]; exact hv3⟩
  have HD3 : Hid (D3.n ≤ 27 ∧ D3.dur = D.dur ∧ D3.nb = D.nb) := by
    rw [hD3]
    exact ⟨by show D.n + 3 ≤ 27; have := HQ.out.1.cnt; omega, rfl, rfl⟩
  have cM : Calls Tryz.prog 21 #[.int .i64 5, .int .i64 4096] wu3 fun e w' => e = .returned (.slice (some ⟨wu3.heap.size, 0, none⟩) 4096 4096) ∧ Rc.Own w' wu3.heap.size (madeL 5 4096) ∧ Below wu3.heap.size wu3 w' := Rc.made_at 5 4096 wu3 (by decide)
  clear cC hv3 hF3 hD3 U3
  go_wp2_with fail
  refine Calls.mono cM ?_
  rintro r wu4 ⟨rfl, om, b4⟩
  obtain ⟨S3, xs3, hv3⟩ := HV3.out
  have hv4 := hv3.below b4
  have cH := has_at (read_mem hv4 30 rfl (madeL 5 4096) (by rw [is5_eq]; rfl)) (Rc.madeK_length 5 4096 4096) (some ⟨wu3.heap.size, 0, none⟩) 4096 om.rd
  have HV4 : Hid (VW wu4 v g j gm 2 false S3 xs3 D3 2 (dats (fun _ => none) is5) F3) := hv4
  have HB4 : Hid (Below w.heap.size w wu4) := HB3.out.trans (b4.mono HB3.out.size)
  clear cM om b4 HV3 hv3 hv4
  go_wp2_with fail
  refine Calls.mono cH ?_
  rintro r wu5 ⟨rfl, b5⟩
  obtain ⟨m5, h5, _⟩ := HV4.out.below b5
  obtain ⟨Fd, hd5, hFd⟩ := h5.jd.disk
  have HB5 : Hid (Below w.heap.size w wu5) := HB4.out.trans (b5.mono HB4.out.size)
  have HFd : Hid (∀ i, Fd i → w.heap.size ≤ i) := fun i hi => HF3.out i (hFd i hi)
  have cX := Dk.crash_at hd5 none 0 0 [] (-1) 0 (by decide) rfl (by decide) (Dk.RdBl.nil _ _) (fun ad e => by cases e)
  obtain ⟨hq6, hu6⟩ := HQ.out.1.crash HQ.out.2 HD3.out.1 HD3.out.2.1 HD3.out.2.2 0
  clear cH b5 HV4 h5 hd5 hFd
  go_wp2_with fail
  refine Calls.mono cX ?_
  rintro r wu6 ⟨rfl, hd6, U6⟩
  have HB6 : Hid (Below w.heap.size w wu6) := upd_low HB5.out U6 HFd.out
  have cM := mount_zero hd6 hq6 (by decide) (by rw [hu6]; decide) (fun k h1 _ => f2_zero k h1) (Su.superB_length 64 1 1 0) (Su.superB_length 64 2 1 0) 2 1 1 0 (by decide) (by decide) (.inr ⟨rfl, rfl⟩) ch2
  clear cX hd6 hq6 hu6 HD3 U6
  go_wp2_with fail
  refine Calls.mono cM ?_
  rintro r wu7 ⟨v7, j7, gm7, F7, D7, rfl, hv7, hq7, hu7, _, _, _, U7⟩
  have HB7 : Hid (Below w.heap.size w wu7) := upd_low HB6.out U7 HFd.out
  have HV7 : Hid (VW wu7 v7 g j7 gm7 3 false (J.opened 64 3 1 0) [] D7 0 (fun _ => none) F7) := hv7
  have HQ7 : Hid (Mq D7 f3 28 ∧ D7.uf = []) := ⟨hq7, hu7⟩
  have hmk : ∀ u : World, (Instr.makeSlice 37 (.int .i64 4096) (.int .i64 4096)).run Tryz.prog u = .ok (.slice (some ⟨u.heap.size, 0, none⟩) 4096 4096) (u.alloc (.cells (Dk.bcs (nought 4096)).toArray 5)) := Dk.make_run 4096 (by decide)
  have ol := Dk.own_lit wu7 (nought 4096)
  have b8 := (Below.refl wu7.heap.size wu7).alloc (Nat.le_refl _) (.cells (Dk.bcs (nought 4096)).toArray 5)
  obtain ⟨Z, hZ⟩ : ∃ Z, Z = (Dk.bcs (nought 4096)).toArray := ⟨_, rfl⟩
  rw [← hZ] at hmk ol b8
  have hv8 := hv7.below b8
  have st : D7.stand 30 = nought 4096 := hq7.at_ 30 (by decide)
  have cR := read_disk hv8 30 (by decide) hq7.nb hq7.calm.1 (by rw [hu7]; decide) rfl
  rw [st] at cR
  have cH := has_at cR (Dk.nought_length 4096) (some ⟨wu7.heap.size, 0, none⟩) 4096 ol.rd
  have HV8 : Hid (VW (wu7.alloc (.cells Z 5)) v7 g j7 gm7 3 false (J.opened 64 3 1 0) [] D7 0 (fun _ => none) F7) := hv8
  have HB8 : Hid (Below w.heap.size w (wu7.alloc (.cells Z 5))) := HB7.out.trans (b8.mono HB7.out.size)
  clear cM hv7 hq7 hu7 ol b8 hv8 st cR hZ U7
  go_wp2_with fail
  refine Calls.mono cH ?_
  rintro r wu9 ⟨rfl, b9⟩
  have cN := next_vw (HV8.out.below b9)
  rw [show (J.opened 64 3 1 0).next = 1 by rfl] at cN
  have HB9 : Hid (Below w.heap.size w wu9) := HB8.out.trans (b9.mono HB8.out.size)
  clear cH hmk b9
  go_wp2_with fail
  refine Calls.mono cN ?_
  rintro r w' ⟨rfl, rfl⟩
  clear cN
  go_wp2_with fail
  exact bodyPost_ret (v := .bool true) (by simp [results, Tryz.results32, go_sem]) rfl ⟨rfl, HB9.out⟩
end Go.Proofs.YtnldkpckojhbhaaGreat.V
