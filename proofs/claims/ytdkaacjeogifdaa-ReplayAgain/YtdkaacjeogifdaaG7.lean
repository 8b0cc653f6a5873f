/-
  HAwake: put together.
-/
import Derived.Test.YtdkaacjeogifdaaG6
import Derived.Deep.RegionHeld3
import Derived.Deep.Cut
/-
  awake: the chapter's examples, as every statement asks them.
-/
namespace Go.Proofs.Ytdkaacjeogifdaa.H
open Go.RowKit
open Go.Proofs.Ytdkaacjeogifdaa.Rc (madeL Imgs)
open Go.Proofs.Ytdkaacjeogifdaa.Su (supV getSuper)
open Go.Proofs.Ytdkaacjeogifdaa.Dk (Box)

theorem rise_ext : ∀ (l m : List Int), l.Pairwise (· < ·) → m.Pairwise (· < ·) → (∀ x, x ∈ l ↔ x ∈ m) → l = m
  | [], [], _, _, _ => rfl
  | [], y :: m, _, _, h => by have := (h y).2 (List.mem_cons_self ..); cases this
  | x :: l, [], _, _, h => by have := (h x).1 (List.mem_cons_self ..); cases this
  | x :: l, y :: m, hl, hm, h => by
    rw [List.pairwise_cons] at hl hm
    have e : x = y := by
      have h1 := (h x).1 (List.mem_cons_self ..)
      have h2 := (h y).2 (List.mem_cons_self ..)
      rcases List.mem_cons.1 h1 with h1 | h1
      · exact h1
      · rcases List.mem_cons.1 h2 with h2 | h2
        · exact h2.symm
        · have := hm.1 x h1
          have := hl.1 y h2
          omega
    subst e
    rw [rise_ext l m hl.2 hm.2 (fun z => ⟨fun hz => by
        have h1 := hl.1 z hz
        rcases List.mem_cons.1 ((h z).1 (List.mem_cons_of_mem _ hz)) with h2 | h2
        · omega
        · exact h2, fun hz => by
        have h1 := hm.1 z hz
        rcases List.mem_cons.1 ((h z).2 (List.mem_cons_of_mem _ hz)) with h2 | h2
        · omega
        · exact h2⟩)]
theorem madeL_len (z : Int) : (madeL z 4096).length = 4096 := Rc.madeK_length z 4096 4096
/-- the document's second example: 40: A, 30: B; 40: C -/
theorem last_three (A B C : List UInt8) (ks : List Int) (h1 : ks.Pairwise (· < ·)) (h2 : ∀ x, x ∈ ks ↔ (lastD [(40, A), (30, B), (40, C)] x).isSome = true) : (ks.map fun k => (k, datD [(40, A), (30, B), (40, C)] k)) = [(30, B), (40, C)] := by
  have e : ks = [30, 40] := rise_ext _ _ h1 (by decide) (fun x => by
    rw [h2 x]
    simp only [lastD, List.foldl_cons, List.foldl_nil]
    by_cases h30 : (30 : Int) = x
    · subst h30; simp
    · by_cases h40 : (40 : Int) = x
      · subst h40; simp
      · simp [h30, h40]
        omega)
  subst e
  simp [datD, lastD]
theorem choose_ex : choose (getSuper (sB 1 5)) (getSuper (sB 2 1)) = (⟨64, 2, 1, 0⟩, 1, true) := by
  rw [sB_get 1 5 (by decide), sB_get 2 1 (by decide)]
  rfl
/-- what stands in the last statement -/
@[reducible] def AwS (w : World) (g1 : Nat) (a4 : Option Addr) (L : List (Int × List UInt8)) (u : World) : Prop :=
  u.cell? ⟨g1, 0, none⟩ = some (.int .i64 64) ∧ u.cell? ⟨g1, 1, none⟩ = some (.int .i64 2) ∧ u.cell? ⟨g1, 2, none⟩ = some (.int .i64 1) ∧ u.cell? ⟨g1, 3, none⟩ = some (.int .i64 0) ∧
  Hid (Box u g1 #[.int .i64 64, .int .i64 2, .int .i64 1, .int .i64 0] 23 ∧ Imgs u a4 L ∧ Below w.heap.size w u)
section
variable {w u u' : World} {g1 : Nat} {a4 : Option Addr} {L : List (Int × List UInt8)}
theorem AwS.new (h1 : Box u g1 #[.int .i64 64, .int .i64 2, .int .i64 1, .int .i64 0] 23) (h2 : Imgs u a4 L) (h3 : Below w.heap.size w u) : AwS w g1 a4 L u :=
  ⟨h1.cell 0, h1.cell 1, h1.cell 2, h1.cell 3, ⟨h1, h2, h3⟩⟩
theorem AwS.below (b : Below u.heap.size u u') (h : AwS w g1 a4 L u) : AwS w g1 a4 L u' :=
  AwS.new (h.2.2.2.2.out.1.below b) (h.2.2.2.2.out.2.1.below b) (h.2.2.2.2.out.2.2.trans (b.mono h.2.2.2.2.out.2.2.size))
theorem AwS.alloc {o : Obj} (h : AwS w g1 a4 L u) : AwS w g1 a4 L (u.alloc o) := AwS.below ((Below.refl _ u).alloc (Nat.le_refl _) _) h
theorem AwS.imgs (h : AwS w g1 a4 L u) : Imgs u a4 L := h.2.2.2.2.out.2.1
theorem AwS.bel (h : AwS w g1 a4 L u) : Below w.heap.size w u := h.2.2.2.2.out.2.2
end
theorem lit_two {u : World} {g1 g2 : Nat} {xs ys : List UInt8} (h1 : Rc.Own u g1 xs) (h2 : Rc.Own u g2 ys) (hx : xs.length = 4096) (hy : ys.length = 4096) : Imgs (u.alloc (.cells #[.int .i64 30, .slice (some ⟨g1, 0, none⟩) 4096 4096, .int .i64 40, .slice (some ⟨g2, 0, none⟩) 4096 4096] 37)) (some ⟨u.heap.size, 0, none⟩) [(30, xs), (40, ys)] := by
  have b := (Below.refl u.heap.size u).alloc (Nat.le_refl _) (.cells #[.int .i64 30, .slice (some ⟨g1, 0, none⟩) 4096 4096, .int .i64 40, .slice (some ⟨g2, 0, none⟩) 4096 4096] 37)
  exact imgs_two (Box.new u _ 37) (h1.below b h1.lt) (h2.below b h2.lt) hx hy

set_option maxRecDepth 100000 in
set_option maxHeartbeats 8000000 in
theorem awake_at (w : World) : Calls Try.prog 19 #[] w fun r w' => r = .returned (.bool true) ∧ Below w.heap.size w w' := by
  have HB1 : Hid (∀ u : World, Calls Try.prog 7 #[.int .i64 1, .int .i64 5] u fun r w' => ∃ g c, r = .returned (.slice (some ⟨g, 0, none⟩) 4096 c) ∧ u.heap.size ≤ g ∧ g < w'.heap.size ∧ 4096 ≤ c ∧ c ≤ 9223372036854775807 ∧ Su.Rd w' (some ⟨g, 0, none⟩) (sB 1 5) ∧ Below u.heap.size u w') := fun u => bytes_good 1 5 u (by decide)
  have HB2 : Hid (∀ u : World, Calls Try.prog 7 #[.int .i64 2, .int .i64 1] u fun r w' => ∃ g c, r = .returned (.slice (some ⟨g, 0, none⟩) 4096 c) ∧ u.heap.size ≤ g ∧ g < w'.heap.size ∧ 4096 ≤ c ∧ c ≤ 9223372036854775807 ∧ Su.Rd w' (some ⟨g, 0, none⟩) (sB 2 1) ∧ Below u.heap.size u w') := fun u => bytes_good 2 1 u (by decide)
  have HM : Hid (∀ (z n : Int) (u : World), Calls Try.prog 10 #[.int .i64 n, .int .i64 z] u fun r w' => ∃ g, r = .returned (.agg #[.int .i64 n, .slice (some ⟨g, 0, none⟩) 4096 4096]) ∧ u.heap.size ≤ g ∧ Rc.Own w' g (madeL z 4096) ∧ Below u.heap.size u w') := fun z n u => made_at n z u
  have HLy : Hid (∀ u : World, Calls Try.prog 9 #[] u fun r w' => r = .returned (.agg #[.int .i64 64, .int .i64 2, .int .i64 16, .int .i64 18, .int .i64 19, .int .i64 4, .int .i64 23]) ∧ Below u.heap.size u w') := fun u => layout64_at u
  have HOf : Hid (∀ u : World, Calls Try.prog 13 #[.int .i64 2, .int .i64 1] u fun r w' => r = .returned (.agg #[.int .i64 64, .int .i64 2, .int .i64 1, .int .i64 0]) ∧ Below u.heap.size u w') := fun u => of_at 2 1 u
  have M1 := HM.out 1
  have M2 := HM.out 2
  have M3 := HM.out 3
  have l1 : Hid ((madeL 1 4096).length = 4096) := madeL_len 1
  have l2 : Hid ((madeL 2 4096).length = 4096) := madeL_len 2
  have l3 : Hid ((madeL 3 4096).length = 4096) := madeL_len 3
  generalize madeL 1 4096 = m1 at M1 l1
  generalize madeL 2 4096 = m2 at M2 l2
  generalize madeL 3 4096 = m3 at M3 l3
  have HM1 : Hid (∀ (n : Int) (u : World), Calls Try.prog 10 #[.int .i64 n, .int .i64 1] u fun r w' => ∃ g, r = .returned (.agg #[.int .i64 n, .slice (some ⟨g, 0, none⟩) 4096 4096]) ∧ u.heap.size ≤ g ∧ Rc.Own w' g m1 ∧ Below u.heap.size u w') := M1
  have HM2 : Hid (∀ (n : Int) (u : World), Calls Try.prog 10 #[.int .i64 n, .int .i64 2] u fun r w' => ∃ g, r = .returned (.agg #[.int .i64 n, .slice (some ⟨g, 0, none⟩) 4096 4096]) ∧ u.heap.size ≤ g ∧ Rc.Own w' g m2 ∧ Below u.heap.size u w') := M2
  have HM3 : Hid (∀ (n : Int) (u : World), Calls Try.prog 10 #[.int .i64 n, .int .i64 3] u fun r w' => ∃ g, r = .returned (.agg #[.int .i64 n, .slice (some ⟨g, 0, none⟩) 4096 4096]) ∧ u.heap.size ≤ g ∧ Rc.Own w' g m3 ∧ Below u.heap.size u w') := M3
  clear M1 M2 M3 HM
  have hch : Hid (choose (getSuper (sB 1 5)) (getSuper (sB 2 1)) = (⟨64, 2, 1, 0⟩, 1, true)) := choose_ex
  have hl1 : Hid ((sB 1 5).length = 4096) := sB_len 1 5
  have hl2 : Hid ((sB 2 1).length = 4096) := sB_len 2 1
  generalize sB 1 5 = s1 at HB1 hch hl1
  generalize sB 2 1 = s2 at HB2 hch hl2
  have hE : ∀ u, (binOp .eql 23 (.agg #[.int .i64 64, .int .i64 2, .int .i64 1, .int .i64 0]) (.agg #[.int .i64 64, .int .i64 2, .int .i64 1, .int .i64 0])).run Try.prog u = .ok (.bool true) u := fun u => eqlS u 64 2 1 0 64 2 1 0
  go_enter Try.func19, Try.ntmps19
  go_wp2_with fail
  refine Calls.mono (HB1.out _) ?_
  rintro r u1 ⟨ga, ca, rfl, _, hga, hca, hca2, r1, b1⟩
  go_wp2_with fail
  refine Calls.mono (HB2.out _) ?_
  rintro r u2 ⟨gb, cb, rfl, _, _, hcb, hcb2, r2, b2⟩
  have B2 := b1.trans (b2.mono b1.size)
  have cC := choose_at 4096 ca 4096 cb (some ⟨ga, 0, none⟩) (some ⟨gb, 0, none⟩) s1 s2 u2 hl1.out hca hca2 (r1.below b2 (Nat.le_refl _)) hl2.out hcb hcb2 r2
  rw [hch.out] at cC
  unfold supV at cC
  dsimp only at cC
  clear HB1 HB2 hch r1 r2 b1 b2 hl1 hl2 hga hca hca2 hcb hcb2
  go_wp2_with fail
  refine Calls.mono cC ?_
  rintro r u3 ⟨rfl, b3⟩
  have B3 := B2.trans (b3.mono B2.size)
  have bx := Box.new u3 #[.int .i64 64, .int .i64 2, .int .i64 1, .int .i64 0] 23
  have B4 := B3.alloc B3.size (.cells #[.int .i64 64, .int .i64 2, .int .i64 1, .int .i64 0] 23)
  obtain ⟨g1, hg1⟩ : ∃ u, u = u3.heap.size := ⟨_, rfl⟩
  obtain ⟨w4, hw4⟩ : ∃ u, u = u3.alloc (.cells #[.int .i64 64, .int .i64 2, .int .i64 1, .int .i64 0] 23) := ⟨_, rfl⟩
  rw [← hw4] at B4 bx
  rw [← hg1] at bx
  have HW4 : Hid (w4 = u3.alloc (.cells #[.int .i64 64, .int .i64 2, .int .i64 1, .int .i64 0] 23)) := hw4
  have HG1 : Hid (g1 = u3.heap.size) := hg1
  clear cC B2 B3 b3 hw4 hg1
  go_wp2_with fail
  rw [← HW4.out, ← HG1.out]
  clear HW4 HG1
  refine Calls.mono (HLy.out _) ?_
  rintro r u5 ⟨rfl, b5⟩
  have B5 := B4.trans (b5.mono B4.size)
  have x5 := bx.below b5
  clear HLy bx b5 B4
  go_wp2_with fail
  refine Calls.mono (HM1.out 40 _) ?_
  rintro r u6 ⟨ha, rfl, _, o1, b6⟩
  have B6 := B5.trans (b6.mono B5.size)
  have x6 := x5.below b6
  clear HM1 x5 b6 B5
  go_wp2_with fail
  refine Calls.mono (HM2.out 30 _) ?_
  rintro r u7 ⟨hb, rfl, _, o2, b7⟩
  have B7 := B6.trans (b7.mono B6.size)
  have x7 := x6.below b7
  have o17 := o1.below b7 o1.lt
  clear x6 b7 B6 o1
  have bA := (Below.refl u7.heap.size u7).alloc (Nat.le_refl _) (.cells #[.int .i64 40, .slice (some ⟨ha, 0, none⟩) 4096 4096, .int .i64 30, .slice (some ⟨hb, 0, none⟩) 4096 4096] 37)
  have yA := Box.new u7 #[.int .i64 40, .slice (some ⟨ha, 0, none⟩) 4096 4096, .int .i64 30, .slice (some ⟨hb, 0, none⟩) 4096 4096] 37
  have B8 := B7.alloc B7.size (.cells #[.int .i64 40, .slice (some ⟨ha, 0, none⟩) 4096 4096, .int .i64 30, .slice (some ⟨hb, 0, none⟩) 4096 4096] 37)
  have x8 := x7.below bA
  have o18 := o17.below bA o17.lt
  have o28 := o2.below bA o2.lt
  obtain ⟨gA, hgA⟩ : ∃ u, u = u7.heap.size := ⟨_, rfl⟩
  obtain ⟨w8, hw8⟩ : ∃ u, u = u7.alloc (.cells #[.int .i64 40, .slice (some ⟨ha, 0, none⟩) 4096 4096, .int .i64 30, .slice (some ⟨hb, 0, none⟩) 4096 4096] 37) := ⟨_, rfl⟩
  rw [← hw8] at B8 yA x8 o18 o28
  rw [← hgA] at yA
  have HW8 : Hid (w8 = u7.alloc (.cells #[.int .i64 40, .slice (some ⟨ha, 0, none⟩) 4096 4096, .int .i64 30, .slice (some ⟨hb, 0, none⟩) 4096 4096] 37)) := hw8
  have HGA : Hid (gA = u7.heap.size) := hgA
  clear bA B7 x7 o17 o2 hw8 hgA
  go_wp2_with fail
  rw [← HW8.out, ← HGA.out]
  clear HW8 HGA
  refine Calls.mono (HM3.out 40 _) ?_
  rintro r u9 ⟨hc, rfl, _, o3, b9⟩
  have B9 := B8.trans (b9.mono B8.size)
  have x9 := x8.below b9
  have y9 := yA.below b9
  have o19 := o18.below b9 o18.lt
  have o29 := o28.below b9 o28.lt
  clear B8 x8 yA o18 o28 b9
  have al := ((Below.refl u9.heap.size u9).alloc (Nat.le_refl _) (.cells #[.int .i64 40, .slice (some ⟨hc, 0, none⟩) 4096 4096] 37)).alloc (by simp) (.cells #[.int .i64 0, .int .i64 0, .slice (some ⟨gA, 0, none⟩) 2 2, .int .i64 0, .int .i64 0, .slice (some ⟨u9.heap.size, 0, none⟩) 1 1] 40)
  have yB := (Box.new u9 #[.int .i64 40, .slice (some ⟨hc, 0, none⟩) 4096 4096] 37).alloc (.cells #[.int .i64 0, .int .i64 0, .slice (some ⟨gA, 0, none⟩) 2 2, .int .i64 0, .int .i64 0, .slice (some ⟨u9.heap.size, 0, none⟩) 1 1] 40)
  have yG := Box.new (u9.alloc (.cells #[.int .i64 40, .slice (some ⟨hc, 0, none⟩) 4096 4096] 37)) #[.int .i64 0, .int .i64 0, .slice (some ⟨gA, 0, none⟩) 2 2, .int .i64 0, .int .i64 0, .slice (some ⟨u9.heap.size, 0, none⟩) 1 1] 40
  have hz : (u9.alloc (.cells #[.int .i64 40, .slice (some ⟨hc, 0, none⟩) 4096 4096] 37)).heap.size = u9.heap.size + 1 := by simp
  rw [hz] at yG
  clear hz
  have B10 := B9.trans (al.mono B9.size)
  have x10 := x9.below al
  have y10 := y9.below al
  have o110 := o19.below al o19.lt
  have o210 := o29.below al o29.lt
  have o310 := o3.below al o3.lt
  obtain ⟨w10, hw10⟩ : ∃ u, u = (u9.alloc (.cells #[.int .i64 40, .slice (some ⟨hc, 0, none⟩) 4096 4096] 37)).alloc (.cells #[.int .i64 0, .int .i64 0, .slice (some ⟨gA, 0, none⟩) 2 2, .int .i64 0, .int .i64 0, .slice (some ⟨u9.heap.size, 0, none⟩) 1 1] 40) := ⟨_, rfl⟩
  rw [← hw10] at yB yG B10 x10 y10 o110 o210 o310
  have cH := home_at w10 (some ⟨u9.heap.size + 1, 0, none⟩) 2 2 [⟨0, 0, some ⟨gA, 0, none⟩, 2, [(40, some ⟨ha, 0, none⟩, 4096, 4096), (30, some ⟨hb, 0, none⟩, 4096, 4096)]⟩, ⟨0, 0, some ⟨u9.heap.size, 0, none⟩, 1, [(40, some ⟨hc, 0, none⟩, 4096, 4096)]⟩]
    [((40, some ⟨ha, 0, none⟩, 4096, 4096), m1), ((30, some ⟨hb, 0, none⟩, 4096, 4096), m2), ((40, some ⟨hc, 0, none⟩, 4096, 4096), m3)] rfl (by decide) (cellsG_two yG rfl (by decide) (cellsI_two y10) rfl (by decide) (cellsI_one yB)) rfl
    (fun p hp => by
      simp only [List.mem_cons, List.not_mem_nil, or_false] at hp
      rcases hp with rfl | rfl | rfl
      · exact ⟨o110.rd, l1.out, rfl⟩
      · exact ⟨o210.rd, l2.out, rfl⟩
      · exact ⟨o310.rd, l3.out, rfl⟩)
    (fun p hp => by
      simp only [List.mem_cons, List.not_mem_nil, or_false] at hp
      rcases hp with rfl | rfl | rfl <;> (dsimp only; omega))
  have HW10 : Hid (w10 = (u9.alloc (.cells #[.int .i64 40, .slice (some ⟨hc, 0, none⟩) 4096 4096] 37)).alloc (.cells #[.int .i64 0, .int .i64 0, .slice (some ⟨gA, 0, none⟩) 2 2, .int .i64 0, .int .i64 0, .slice (some ⟨u9.heap.size, 0, none⟩) 1 1] 40)) := hw10
  unfold lay at cH
  clear hw10 yB yG y10 o110 o210 o310 al B9 x9 y9 o19 o29 o3 l1
  go_wp2_with fail
  rw [← HW10.out]
  clear HW10
  refine Calls.mono cH ?_
  rintro r u11 ⟨a4, c4, ks, qs, rfl, hR, b11⟩
  have hI := hR.imgs
  have hn : ks.length = 2 := by
    have := congrArg List.length (last_three m1 m2 m3 ks hR.rise hR.keys)
    simpa using this
  have e3 : (ks.map fun k => (k, datD (pl [((40, some ⟨ha, 0, none⟩, 4096, 4096), m1), ((30, some ⟨hb, 0, none⟩, 4096, 4096), m2), ((40, some ⟨hc, 0, none⟩, 4096, 4096), m3)]) k)) = [(30, m2), (40, m3)] := last_three m1 m2 m3 ks hR.rise hR.keys
  rw [e3] at hI
  rw [hn]
  have hA0 : Hid (AwS w g1 a4 [(30, m2), (40, m3)] u11.drew) := AwS.below ((Below.refl _ u11).drew) (AwS.new (x10.below b11) hI (B10.trans (b11.mono B10.size)))
  clear hI hn e3 hR cH b11 x10 B10
  go_upto_region 3 with fail
  go_region_held3 (fun u => u.cell? ⟨g1, 0, none⟩ = some (.int .i64 64) ∧ u.cell? ⟨g1, 1, none⟩ = some (.int .i64 2) ∧ u.cell? ⟨g1, 2, none⟩ = some (.int .i64 1) ∧ u.cell? ⟨g1, 3, none⟩ = some (.int .i64 0) ∧
      Hid (Box u g1 #[.int .i64 64, .int .i64 2, .int .i64 1, .int .i64 0] 23 ∧ Imgs u a4 [(30, m2), (40, m3)] ∧ Below w.heap.size w u))
    (first | with_reducible exact hA0.out | with_reducible exact AwS.below b (by with_reducible assumption) | with_reducible exact AwS.alloc (by with_reducible assumption) | with_reducible assumption)
    (first
      | (go_at_call 13; refine (HOf.out _).mono ?_; rintro e u13 ⟨rfl, b⟩)
      | (go_at_call_of 10 (Value.int .i64 30); first
          | (have h9 := ‹Hid (Rc.Own _ _ m3)›; refine (HM2.out 30 _).mono ?_; clear b; rintro e u14 ⟨gx, rfl, _, ox, b⟩; have h9' : Hid (Rc.Own u14 _ m3) := h9.out.below b h9.out.lt; have ox' : Hid (Rc.Own u14 gx m2) := ox)
          | (refine (HM2.out 30 _).mono ?_; clear b; rintro e u14 ⟨gx, rfl, _, ox, b⟩; have ox' : Hid (Rc.Own u14 gx m2) := ox))
      | (go_at_call_of 10 (Value.int .i64 40); first
          | (have h9 := ‹Hid (Rc.Own _ _ m2)›; refine (HM3.out 40 _).mono ?_; clear b; rintro e u14 ⟨gx, rfl, _, ox, b⟩; have h9' : Hid (Rc.Own u14 _ m2) := h9.out.below b h9.out.lt; have ox' : Hid (Rc.Own u14 gx m3) := ox)
          | (refine (HM3.out 40 _).mono ?_; clear b; rintro e u14 ⟨gx, rfl, _, ox, b⟩; have ox' : Hid (Rc.Own u14 gx m3) := ox))
      | (go_at_call 26; first
          | (refine (Rc.sameImages_at _ _ 2 _ 2 _ [(30, m2), (40, m3)] [(30, m2), (40, m3)] _ rfl rfl (by omega) (AwS.imgs (w := w) (g1 := g1) (by with_reducible assumption)) (lit_two ox'.out h9'.out l2.out l3.out)).mono ?_; clear b; rintro e u26 ⟨rfl, b⟩; rw [decide_eq_true rfl])
          | (refine (Rc.sameImages_at _ _ 2 _ 2 _ [(30, m2), (40, m3)] [(30, m2), (40, m3)] _ rfl rfl (by omega) (AwS.imgs (w := w) (g1 := g1) (by with_reducible assumption)) (lit_two h9'.out ox'.out l2.out l3.out)).mono ?_; clear b; rintro e u26 ⟨rfl, b⟩; rw [decide_eq_true rfl])))
  all_goals go_wp2_with fail
  all_goals go_ret
  all_goals exact ⟨rfl, AwS.bel (w := w) (g1 := g1) (a4 := a4) (L := [(30, m2), (40, m3)]) (by with_reducible assumption)⟩
end Go.Proofs.Ytdkaacjeogifdaa.H
