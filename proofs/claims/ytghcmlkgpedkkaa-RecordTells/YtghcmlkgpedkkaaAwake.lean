/-
  awake: the chapter's first example, as every statement asks it.
-/
import Derived.Test.YtghcmlkgpedkkaaOne
import Derived.Deep.Cut
import Derived.Deep.RegionWith
import Derived.Deep.RegionHeld3
namespace Go.Proofs.Ytghcmlkgpedkkaa
open Go.RowKit

theorem fill_two : (fill 97).take 2 = [97, 97] := by
  have h0 := fill_get 97 0 (by omega)
  have h1 := fill_get 97 1 (by omega)
  have hl := fill_length 97
  generalize fill 97 = f at h0 h1 hl
  match f, h0, h1 with
  | a :: b :: r, h0, h1 =>
    simp at h0 h1
    subst h0 h1
    rfl

/-- one image in memory -/
theorem imgs_one {w : World} {ga gd : Nat} {f : List UInt8} (hb : Box w ga #[.int .i64 40, .slice (some ⟨gd, 0, none⟩) 4096 4096] 38) (ho : Own w gd f) (hf : f.length = 4096) : Imgs w (some ⟨ga, 0, none⟩) [(40, f)] := fun _ => by
  refine ⟨ga, 0, rfl, fun j hj => ?_⟩
  have : j = 0 := by simp at hj; omega
  subst this
  refine ⟨hb.cell 0, some ⟨gd, 0, none⟩, 4096, ?_, by show f.length ≤ 4096; omega, by omega, fun h => (by cases h), ho.rd⟩
  show w.cell? ⟨ga, 0 + 0 * 2 + 1, none⟩ = some (.slice (some ⟨gd, 0, none⟩) f.length 4096)
  rw [hf]
  exact hb.cell 1

/-- what Put of the chapter's group leaves -/
structure OneS (w0 w : World) (gl cl h0 hp cp : Nat) (f : List UInt8) : Prop where
  l0 : w.cell? ⟨gl, 0, none⟩ = some (.slice (some ⟨h0, 0, none⟩) 4096 4096)
  l1 : w.cell? ⟨gl, 1, none⟩ = some (.slice (some ⟨hp, 0, none⟩) 4096 cp)
  gl0 : gl < w.heap.size
  r0 : RowB w h0 4096 (oneH f)
  r1 : RowB w hp cp (stB (mark 1 1) f)
  B : Below w0.heap.size w0 w
theorem OneS.below {w0 w w' : World} {gl cl h0 hp cp : Nat} {f : List UInt8} (h : OneS w0 w gl cl h0 hp cp f) (b : Below w.heap.size w w') : OneS w0 w' gl cl h0 hp cp f :=
  ⟨(b.cell (p := ⟨gl, 0, none⟩) h.gl0).trans h.l0, (b.cell (p := ⟨gl, 1, none⟩) h.gl0).trans h.l1, Nat.lt_of_lt_of_le h.gl0 b.size, h.r0.same (b.block _ h.r0.lt), h.r1.same (b.block _ h.r1.lt), h.B.trans (b.mono h.B.size)⟩
theorem OneS.lsts {w0 w : World} {gl cl h0 hp cp : Nat} {f : List UInt8} (h : OneS w0 w gl cl h0 hp cp f) (hf : f.length = 4096) : Lsts w (some ⟨gl, 0, none⟩) (putL 1 1 [(40, f)]) := fun _ => by
  refine ⟨gl, 0, rfl, fun j hj => ?_⟩
  have hj2 : j = 0 ∨ j = 1 := by simp [putL] at hj; omega
  have e0 : (oneH f).length = 4096 := one_len f hf
  have e1 : (stB (mark 1 1) f).length = 4096 := stB_length _ f hf (mark_length _ _)
  obtain ⟨cur, _, q1, q2, _⟩ := h.r1
  rcases hj2 with rfl | rfl
  · refine ⟨some ⟨h0, 0, none⟩, 4096, ?_, ?_, by omega, fun h => (by cases h), h.r0.rd⟩
    · show w.cell? ⟨gl, 0, none⟩ = some (.slice (some ⟨h0, 0, none⟩) (oneH f).length 4096)
      rw [e0]
      exact h.l0
    · show (oneH f).length ≤ 4096
      omega
  · refine ⟨some ⟨hp, 0, none⟩, cp, ?_, ?_, by unfold maxLen at q2; omega, fun h => (by cases h), h.r1.rd⟩
    · show w.cell? ⟨gl, 0 + 1, none⟩ = some (.slice (some ⟨hp, 0, none⟩) (stB (mark 1 1) f).length cp)
      rw [e1]
      exact h.l1
    · exact q1

theorem one_putS {w w' : World} {gl cl h0 : Nat} {ps : List PP} {f : List UInt8} (_hg : w.heap.size ≤ gl) (ho : w'.ownsRow w.heap.size 31 1 (.slice (some ⟨gl, 0, none⟩) 2 cl) 2 (.slice (some ⟨h0, 0, none⟩) 4096 4096 :: rowC ps))
    (hr : RowB w' h0 4096 (headB 1 1 (esOf (mark 1 1) ps))) (hj : PutJ (mark 1 1) w.heap.size w' ps) (hm : ps.map (fun p => (p.b, p.xs)) = [(40, f)]) (b : Below w.heap.size w w') : ∃ hp cp, OneS w w' gl cl h0 hp cp f := by
  have hl1 : ps.length = 1 := by simpa using congrArg List.length hm
  obtain ⟨p, rfl⟩ := List.length_eq_one_iff.1 hl1
  simp at hm
  obtain ⟨hb, hx⟩ := hm
  obtain ⟨q1, _⟩ := hj.rows p (by simp)
  rw [hx] at q1
  have e : esOf (mark 1 1) [p] = entL (mark 1 1) [(40, f)] := by simp [esOf, entL, hb, hx]
  rw [e] at hr
  rcases ho.2 with ⟨h1, _⟩ | ⟨g, cap, cur, h1, _, hg2, hnc, hcm, hcs, ht⟩
  · cases h1
  · injection h1 with h1
    injection h1 with h1
    injection h1 with h1
    subst h1
    have hB : Box w' gl cur 31 := hg2
    have c : ∀ j, j < 2 → w'.cell? ⟨gl, j, none⟩ = (.slice (some ⟨h0, 0, none⟩) 4096 4096 :: rowC [p])[j]? := fun j hj => by
      rw [hB.cell j, ← ht, List.getElem?_take, if_pos (by omega)]
      simp
    exact ⟨p.h, p.c, c 0 (by omega), c 1 (by omega), hB.lt, hr, q1, b⟩

theorem imgs_got {w w' : World} {a : Option Addr} {c : Nat} {qs : List GG} {f : List UInt8} (hf : f.length = 4096) (ho : w'.ownsRow w.heap.size 38 2 (.slice a 1 c) 1 (imgC qs)) (hj : GetJ w.heap.size w' qs) (hm : qs.map (fun p => (p.b, p.xs)) = [(40, f)]) : Imgs w' a [(40, f)] := fun _ => by
  have hl1 : qs.length = 1 := by simpa using congrArg List.length hm
  obtain ⟨p, rfl⟩ := List.length_eq_one_iff.1 hl1
  simp at hm
  obtain ⟨hb, hx⟩ := hm
  obtain ⟨q1, _⟩ := hj.rows p (by simp)
  rw [hx] at q1
  rcases ho.2 with ⟨h1, _⟩ | ⟨g, cap, cur, h1, _, hg2, hnc, hcm, hcs, ht⟩
  · omega
  injection h1 with h1
  subst h1
  have hB : Box w' g cur 38 := hg2
  have cc : ∀ j, j < 2 → w'.cell? ⟨g, j, none⟩ = (imgC [p])[j]? := fun j hj => by
    rw [hB.cell j, ← ht, List.getElem?_take, if_pos (by omega)]
    simp
  obtain ⟨cur2, hb2, k1, k2, _⟩ := q1
  refine ⟨g, 0, rfl, fun j hj => ?_⟩
  have : j = 0 := by simp at hj; omega
  subst this
  refine ⟨?_, some ⟨p.h, 0, none⟩, p.c, ?_, k1, by unfold maxLen at k2; omega, fun h => (by cases h), RowB.rd ⟨cur2, hb2, k1, k2, by assumption⟩⟩
  · have := cc 0 (by omega)
    rw [this]
    simp [imgC, hb]
  · have := cc 1 (by omega)
    show w'.cell? ⟨g, 0 + 0 * 2 + 1, none⟩ = some (.slice (some ⟨p.h, 0, none⟩) f.length p.c)
    rw [hf]
    show w'.cell? ⟨g, 1, none⟩ = _
    rw [this]
    simp [imgC]

theorem rd_lit {u : World} (g : Nat) (xs : List UInt8) (hg : g = u.heap.size) : Rd (u.alloc (.cells (bcs xs).toArray 5)) (some ⟨g, 0, none⟩) xs := by
  subst hg
  exact (own_lit u xs).rd
/-- what stands in the last statement: Put's blocks, the group that was got, its box -/
@[reducible] def AwS (w : World) (g7 : Nat) (a9 : Option Addr) (c9 gl cl h0 hp cp : Nat) (f : List UInt8) (u : World) : Prop :=
  u.cell? ⟨g7, 0, none⟩ = some (.int .i64 1) ∧ u.cell? ⟨g7, 1, none⟩ = some (.int .i64 1) ∧ u.cell? ⟨g7, 2, none⟩ = some (.slice a9 1 c9) ∧ u.cell? ⟨gl, 0, none⟩ = some (.slice (some ⟨h0, 0, none⟩) 4096 4096) ∧
  Hid (OneS w u gl cl h0 hp cp f ∧ Imgs u a9 [(40, f)] ∧ Box u g7 #[.int .i64 1, .int .i64 1, .slice a9 1 c9] 28)
section
variable {w u u' : World} {g7 : Nat} {a9 : Option Addr} {c9 gl cl h0 hp cp : Nat} {f : List UInt8}
theorem AwS.new (h1 : OneS w u gl cl h0 hp cp f) (h2 : Imgs u a9 [(40, f)]) (h3 : Box u g7 #[.int .i64 1, .int .i64 1, .slice a9 1 c9] 28) : AwS w g7 a9 c9 gl cl h0 hp cp f u :=
  ⟨h3.cell 0, h3.cell 1, h3.cell 2, h1.l0, ⟨h1, h2, h3⟩⟩
theorem AwS.below (b : Below u.heap.size u u') (h : AwS w g7 a9 c9 gl cl h0 hp cp f u) : AwS w g7 a9 c9 gl cl h0 hp cp f u' :=
  AwS.new (h.2.2.2.2.out.1.below b) (h.2.2.2.2.out.2.1.below b) (h.2.2.2.2.out.2.2.below b)
theorem AwS.alloc {o : Obj} (h : AwS w g7 a9 c9 gl cl h0 hp cp f u) : AwS w g7 a9 c9 gl cl h0 hp cp f (u.alloc o) := AwS.below ((Below.refl _ u).alloc (Nat.le_refl _) _) h
theorem AwS.imgs (h : AwS w g7 a9 c9 gl cl h0 hp cp f u) : Imgs u a9 [(40, f)] := h.2.2.2.2.out.2.1
theorem AwS.one (h : AwS w g7 a9 c9 gl cl h0 hp cp f u) : OneS w u gl cl h0 hp cp f := h.2.2.2.2.out.1
theorem AwS.ten {g : Nat} (h : AwS w g7 a9 c9 gl cl h0 hp cp f u) (hf : f.length = 4096) (hr : Rd u (some ⟨g, 0, none⟩) [0, 0, 1, 0, 0, 0, 0, 1, 0, 1]) :
    Calls Try.prog 9 #[.slice (some ⟨h0, 0, none⟩) 10 4096, .slice (some ⟨g, 0, none⟩) 10 10] u fun e w' => e = .returned (.bool true) ∧ u = w' := by
  have r1 : Rd u (some ⟨h0, 0, none⟩) [0, 0, 1, 0, 0, 0, 0, 1, 0, 1] := by
    have := h.one.r0.rd.part 0 10
    rw [List.drop_zero, one_ten f hf] at this
    exact this
  exact same_at 4096 10 10 10 _ _ _ _ _ rfl rfl r1 hr
theorem AwS.four {g : Nat} (h : AwS w g7 a9 c9 gl cl h0 hp cp f u) (hf : f.length = 4096) (h97 : f.take 2 = [97, 97]) (hr : Rd u (some ⟨g, 0, none⟩) [0, 40, 97, 97]) :
    Calls Try.prog 9 #[.slice (some ⟨h0, 14, none⟩) 4 4082, .slice (some ⟨g, 0, none⟩) 4 4] u fun e w' => e = .returned (.bool true) ∧ u = w' := by
  have r1 : Rd u (some ⟨h0, 14, none⟩) [0, 40, 97, 97] := by
    have := h.one.r0.rd.part 14 4
    rw [one_four f hf h97] at this
    exact this
  exact same_at 4082 4 4 4 _ _ _ _ _ rfl rfl r1 hr
end

set_option maxRecDepth 100000 in
set_option maxHeartbeats 8000000 in
theorem awake_at (w : World) : Calls Try.prog 18 #[] w fun r w' => r = .returned (.bool true) ∧ Below w.heap.size w w' := by
  have HONE : Hid (∀ u : World, Calls Try.prog 8 #[] u fun r w' => ∃ ga gd, r = .returned (.agg #[.int .i64 1, .int .i64 1, .slice (some ⟨ga, 0, none⟩) 1 1]) ∧ u.heap.size ≤ ga ∧ u.heap.size ≤ gd ∧ Box w' ga #[.int .i64 40, .slice (some ⟨gd, 0, none⟩) 4096 4096] 38 ∧ Own w' gd (fill 97) ∧ Below u.heap.size u w') := one_at
  have hf : Hid ((fill 97).length = 4096) := fill_length 97
  have hf2 : Hid ((fill 97).take 2 = [97, 97]) := fill_two
  obtain ⟨f, hff⟩ : ∃ f, f = fill 97 := ⟨_, rfl⟩
  rw [← hff] at HONE hf hf2
  clear hff
  have hok : Hid (okGroup ((1 : Nat) : Int) ((1 : Nat) : Int) [(40, f)]) := one_ok f hf.out
  go_enter Try.func18, Try.ntmps18
  go_wp2_with fail
  refine (HONE.out _).mono ?_
  rintro r w1 ⟨ga, gd, rfl, _, _, ba, od, b1⟩
  have cP := put_in 1 1 (some ⟨ga, 0, none⟩) 1 1 [(40, f)] w1 rfl (imgs_one ba od hf.out) hok.out (by omega) (by omega)
  clear ba od
  go_wp2_with fail
  refine cP.mono ?_
  rintro r w2 ⟨gl, cl, h0, ps, rfl, hgl, ho, hr, _, _, hj, hm, b2⟩
  clear cP
  obtain ⟨hp, cp, hS0⟩ := one_putS hgl ho hr hj hm b2
  have B2 := b1.trans (b2.mono b1.size)
  have hS : OneS w w2 gl cl h0 hp cp f := ⟨hS0.l0, hS0.l1, hS0.gl0, hS0.r0, hS0.r1, B2⟩
  clear hS0
  clear ho hr hj hm b1 b2 B2 hgl
  have l0 := hS.l0
  have l1 := hS.l1
  have cH := head_at (some ⟨h0, 0, none⟩) 4096 4096 (oneH f) w2 (one_len f hf.out) (by omega) (by omega) hS.r0.rd
  go_wp2_with fail
  refine cH.mono ?_
  rintro r w3 hH
  clear cH l0 l1
  have hH2 : r = .returned (.tuple #[.int .i64 1, .int .i64 1, .int .i64 1, .bool true]) ∧ Below w2.heap.size w2 w3 := by
    obtain ⟨q1, q2, q3⟩ := put_said hok.out
    rcases hH with ⟨_, h1, h2⟩ | ⟨h1, _⟩
    · refine ⟨?_, h2⟩
      have e1 : saidE (oneH f) = 1 := q1
      have e2 : saidS (oneH f) = 1 := q2
      have e3 : (saidEs (oneH f)).length = 1 := by
        have : saidEs (oneH f) = entL (mark 1 1) [(40, f)] := q3
        rw [this]
        simp [entL]
      rw [e1, e2, e3] at h1
      exact h1
    · exact absurd (put_head hok.out) h1
  clear hH
  obtain ⟨rfl, b3⟩ := hH2
  replace hS := hS.below b3
  clear b3
  have cG := get_in (some ⟨gl, 0, none⟩) 2 cl (putL 1 1 [(40, f)]) w3 rfl (by omega) (by omega) (hS.lsts hf.out)
  go_wp2_with fail
  refine cG.mono ?_
  rintro r w4 hG
  clear cG
  obtain ⟨a9, c9, qs, rfl, ho9, hj9, hm9, b4⟩ : ∃ a c ps, r = .returned (.tuple #[.agg #[.int .i64 1, .int .i64 1, .slice a 1 c], .int .i64 0]) ∧ w4.ownsRow w3.heap.size 38 2 (.slice a 1 c) 1 (imgC ps) ∧ GetJ w3.heap.size w4 ps ∧ ps.map (fun p => (p.b, p.xs)) = [(40, f)] ∧ Below w3.heap.size w3 w4 := by
    obtain ⟨q1, q2, q3⟩ := put_said hok.out
    have e0 : (putL 1 1 [(40, f)])[0]?.getD [] = headB 1 1 (entL (mark 1 1) [(40, f)]) := rfl
    rcases hG with ⟨_, a, c, ps, h1, h2, h3, h4, h5⟩ | ⟨h1, _⟩
    · rw [e0, q1, q2, q3, entL_length] at h1
      rw [e0, q3, entL_length] at h2 h4
      have e1 : ([(40, f)] : List (Int × List UInt8)).length = 1 := rfl
      rw [e1] at h1 h2
      rw [put_imgs hok.out] at h4
      exact ⟨a, c, ps, h1, h2, h3, h4, h5⟩
    · exact absurd (put_grp hok.out) h1
  clear hG
  have hI := imgs_got hf.out ho9 hj9 hm9
  clear ho9 hj9 hm9
  replace hS := hS.below b4
  clear b4
  have bx := Box.new w4 #[.int .i64 1, .int .i64 1, .slice a9 1 c9] 28
  have ba := (Below.refl _ w4).alloc (Nat.le_refl _) (.cells #[.int .i64 1, .int .i64 1, .slice a9 1 c9] 28)
  replace hS := hS.below ba
  replace hI := hI.below ba
  obtain ⟨w5, hw5⟩ : ∃ u, u = w4.alloc (.cells #[.int .i64 1, .int .i64 1, .slice a9 1 c9] 28) := ⟨_, rfl⟩
  obtain ⟨g7, hg7⟩ : ∃ u, u = w4.heap.size := ⟨_, rfl⟩
  rw [← hw5] at hS hI bx
  rw [← hg7] at bx
  have HW5 : Hid _ := hw5
  have HG7 : Hid _ := hg7
  clear hw5 hg7 ba
  go_upto_region 6 with fail
  rw [← HW5.out, ← HG7.out]
  clear HW5 HG7
  have hA0 : Hid (AwS w g7 a9 c9 gl cl h0 hp cp f w5.drew) := AwS.below ((Below.refl _ w5).drew) (AwS.new hS hI bx)
  clear hS hI bx
  go_region_held3 (fun u => u.cell? ⟨g7, 0, none⟩ = some (.int .i64 1) ∧ u.cell? ⟨g7, 1, none⟩ = some (.int .i64 1) ∧ u.cell? ⟨g7, 2, none⟩ = some (.slice a9 1 c9) ∧ u.cell? ⟨gl, 0, none⟩ = some (.slice (some ⟨h0, 0, none⟩) 4096 4096) ∧
      Hid (OneS w u gl cl h0 hp cp f ∧ Imgs u a9 [(40, f)] ∧ Box u g7 #[.int .i64 1, .int .i64 1, .slice a9 1 c9] 28))
    (first | with_reducible exact hA0.out | with_reducible exact AwS.below b (by with_reducible assumption) | with_reducible exact AwS.alloc (by with_reducible assumption) | with_reducible assumption)
    (first
      | (go_at_call 8; refine (HONE.out _).mono ?_; rintro e u8 ⟨gb, ge, rfl, _, _, xb, ob, b⟩; have hI2 := imgs_one xb ob hf.out; clear xb ob)
      | (go_at_call 14; refine (sameGroup_at 1 1 1 1 _ _ 1 _ 1 _ [(40, f)] [(40, f)] _ rfl rfl (by omega) (AwS.imgs (w := w) (g7 := g7) (c9 := c9) (gl := gl) (cl := cl) (h0 := h0) (hp := hp) (cp := cp) (by with_reducible assumption)) hI2).mono ?_; clear b; rintro e u14 ⟨rfl, b⟩; rw [decide_eq_true ⟨rfl, rfl, rfl⟩])
      | (go_at_call_of 9 (Value.slice (some ⟨h0, 0, none⟩) 10 4096); refine Calls.mono (AwS.ten (w := w) (g7 := g7) (a9 := a9) (c9 := c9) (gl := gl) (cl := cl) (hp := hp) (cp := cp) (f := f) (by with_reducible assumption) hf.out (rd_lit _ [0, 0, 1, 0, 0, 0, 0, 1, 0, 1] (by simp))) ?_; rintro e u9 ⟨rfl, rfl⟩)
      | (go_at_call_of 9 (Value.slice (some ⟨h0, 14, none⟩) 4 4082); refine Calls.mono (AwS.four (w := w) (g7 := g7) (a9 := a9) (c9 := c9) (gl := gl) (cl := cl) (hp := hp) (cp := cp) (f := f) (by with_reducible assumption) hf.out hf2.out (rd_lit _ [0, 40, 97, 97] (by simp))) ?_; rintro e u9 ⟨rfl, rfl⟩))
  all_goals go_wp2_with fail
  all_goals go_ret
  all_goals exact ⟨rfl, (AwS.one (w := w) (g7 := g7) (a9 := a9) (c9 := c9) (gl := gl) (cl := cl) (h0 := h0) (hp := hp) (cp := cp) (f := f) (by with_reducible assumption)).B⟩
end Go.Proofs.Ytghcmlkgpedkkaa
