/-
  RecordNumbers' walk.
-/
import Derived.Test.YtghcmlkgpedkkaaNumF
import Derived.Test.YtghcmlkgpedkkaaAwake
import Derived.Deep.Cut
namespace Go.Proofs.Ytghcmlkgpedkkaa
open Go.RowKit

/-- what stands of the chapter's group, for a region's loads -/
@[reducible] def NuS (w : World) (gl cl h0 hp cp : Nat) (f : List UInt8) (u : World) : Prop :=
  u.cell? ⟨gl, 0, none⟩ = some (.slice (some ⟨h0, 0, none⟩) 4096 4096) ∧ u.cell? ⟨gl, 1, none⟩ = some (.slice (some ⟨hp, 0, none⟩) 4096 cp) ∧ Hid (OneS w u gl cl h0 hp cp f)
section
variable {w u u' : World} {gl cl h0 hp cp : Nat} {f : List UInt8}
theorem NuS.new (h : OneS w u gl cl h0 hp cp f) : NuS w gl cl h0 hp cp f u := ⟨h.l0, h.l1, h⟩
theorem NuS.below (b : Below u.heap.size u u') (h : NuS w gl cl h0 hp cp f u) : NuS w gl cl h0 hp cp f u' := NuS.new (h.2.2.out.below b)
theorem NuS.alloc {o : Obj} (h : NuS w gl cl h0 hp cp f u) : NuS w gl cl h0 hp cp f (u.alloc o) := NuS.below ((Below.refl _ u).alloc (Nat.le_refl _) _) h
theorem NuS.drew (h : NuS w gl cl h0 hp cp f u) : NuS w gl cl h0 hp cp f u.drew := NuS.below ((Below.refl _ u).drew) h
theorem NuS.nine (hf : f.length = 4096) (h97 : ∀ i, i < 4096 → f[i]? = some 97) (k c g : Nat) (hk : k < 8) (h : NuS w gl cl h0 hp cp f u) (hr : Rd u (some ⟨g, 0, none⟩) [0, 0, 1, 0, 0, 0, 0, 1, 97]) :
    Calls Try.prog 9 #[.slice (some ⟨hp, k * 512, none⟩) 9 c, .slice (some ⟨g, 0, none⟩) 9 9] u fun e w' => e = .returned (.bool true) ∧ u = w' := by
  have r1 := h.2.2.out.r1.rd.part (k * 512) 9
  rw [st_nine hf h97 k hk, Nat.zero_add] at r1
  exact same_at c 9 9 9 _ _ _ _ _ rfl rfl r1 hr
theorem NuS.eight (hf : f.length = 4096) (k c c' : Nat) (hk : k < 8) (h : NuS w gl cl h0 hp cp f u) :
    Calls Try.prog 9 #[.slice (some ⟨h0, k * 512, none⟩) 8 c, .slice (some ⟨hp, 0, none⟩) 8 c'] u fun e w' => e = .returned (.bool true) ∧ u = w' := by
  have r1 := h.2.2.out.r0.rd.part (k * 512) 8
  have r2 := h.2.2.out.r1.rd.part (0 * 512) 8
  rw [hd_eight hf k hk, Nat.zero_add] at r1
  rw [st_eight hf 0 (by omega)] at r2
  refine (same_at c c' 8 8 _ _ _ _ _ (mark_length 1 1) (mark_length 1 1) r1 r2).mono ?_
  rintro e w' ⟨h1, h2⟩
  exact ⟨by rw [h1, beq_self_eq_true], h2⟩
theorem NuS.adrew {o : Obj} (h : NuS w gl cl h0 hp cp f u) : NuS w gl cl h0 hp cp f (u.alloc o).drew := NuS.drew (NuS.alloc h)
end

section
variable {w u u' : World} {gl cl h0 hp cp : Nat} {f : List UInt8}
theorem OneS.put {g j : Nat} {v y z : Value} {k : IntKind} {n : Int} (h : OneS w u gl cl h0 hp cp f) (hb : Box u g #[.int k n, y, z] 28) (hg : w.heap.size ≤ g) : OneS w (u.setCell ⟨g, j, none⟩ v) gl cl h0 hp cp f := by
  have hne : gl ≠ g := fun e => by
    have h1 := h.l0
    rw [e, hb.cell 0] at h1
    simp at h1
  refine ⟨?_, ?_, ?_, h.r0.same (heap_setCell_other u ⟨g, j, none⟩ h0 v (fun e => ?_)), h.r1.same (heap_setCell_other u ⟨g, j, none⟩ hp v (fun e => ?_)), h.B.setCell (p := ⟨g, j, none⟩) hg v⟩
  · rw [World.cell?_setCell_far u ⟨g, j, none⟩ ⟨gl, 0, none⟩ v (Ne.symm hne)]
    exact h.l0
  · rw [World.cell?_setCell_far u ⟨g, j, none⟩ ⟨gl, 1, none⟩ v (Ne.symm hne)]
    exact h.l1
  · simpa using h.gl0
  · obtain ⟨cur, hc, _⟩ := h.r0
    exact Box.ne hc hb (by decide) e
  · obtain ⟨cur, hc, _⟩ := h.r1
    exact Box.ne hc hb (by decide) e
end
theorem NuS.put3 {w u : World} {gl cl h0 hp cp g : Nat} {f : List UInt8} (hg : w.heap.size ≤ g) (hb : Box u g #[.int .i64 0, .int .i64 0, .slice none 0 0] 28) (h : NuS w gl cl h0 hp cp f u) :
    NuS w gl cl h0 hp cp f (((u.setCell ⟨g, 0, none⟩ (.int .i64 0)).setCell ⟨g, 1, none⟩ (.int .i64 0)).setCell ⟨g, 2, none⟩ (.slice none 0 0)) := by
  have h1 := h.2.2.out.put (j := 0) (v := .int .i64 0) hb hg
  have b1 : Box (u.setCell ⟨g, 0, none⟩ (.int .i64 0)) g #[.int .i64 0, .int .i64 0, .slice none 0 0] 28 := by simpa using hb.store 0 (.int .i64 0)
  have h2 := h1.put (j := 1) (v := .int .i64 0) b1 hg
  have b2 : Box ((u.setCell ⟨g, 0, none⟩ (.int .i64 0)).setCell ⟨g, 1, none⟩ (.int .i64 0)) g #[.int .i64 0, .int .i64 0, .slice none 0 0] 28 := by simpa using b1.store 1 (.int .i64 0)
  exact NuS.new (h2.put (j := 2) (v := .slice none 0 0) b2 hg)
theorem lsts_two' {w : World} {g h h' c c' : Nat} {x y : List UInt8} (c0 : w.cell? ⟨g, 0, none⟩ = some (.slice (some ⟨h, 0, none⟩) 4096 c)) (c1 : w.cell? ⟨g, 1, none⟩ = some (.slice (some ⟨h', 0, none⟩) 4096 c')) (hx : RowB w h c x) (hy : RowB w h' c' y) (lx : x.length = 4096) (ly : y.length = 4096) : Lsts w (some ⟨g, 0, none⟩) [x, y] := fun _ => by
  refine ⟨g, 0, rfl, fun j hj => ?_⟩
  have hj2 : j = 0 ∨ j = 1 := by simp at hj; omega
  rcases hj2 with rfl | rfl
  · exact lst_row c0 hx lx
  · exact lst_row c1 hy ly
theorem NuS.swap {w u : World} {gl cl h0 hp cp g : Nat} {f : List UInt8} (hf : f.length = 4096) (h97 : ∀ i, i < 4096 → f[i]? = some 97) (h : NuS w gl cl h0 hp cp f u) (c0 : u.cell? ⟨g, 0, none⟩ = some (.slice (some ⟨hp, 0, none⟩) 4096 cp)) (c1 : u.cell? ⟨g, 1, none⟩ = some (.slice (some ⟨h0, 0, none⟩) 4096 4096)) :
    Calls Try.prog 11 #[.slice (some ⟨g, 0, none⟩) 2 2] u fun r w' => r = .returned (.tuple #[.agg #[.int .i64 0, .int .i64 0, .slice none 0 0], .int .i64 80]) ∧ Below u.heap.size u w' :=
  get_no (some ⟨g, 0, none⟩) 2 2 [stB (mark 1 1) f, oneH f] _ rfl (by omega) (by omega) (lsts_two' c0 c1 h.2.2.out.r1 h.2.2.out.r0 (stB_length _ f hf (mark_length _ _)) (one_len f hf)) (swap_no hf h97)
theorem Lsts.head {w : World} {a : Option Addr} {x : List UInt8} {ls : List (List UInt8)} (h : Lsts w a (x :: ls)) : Lsts w a [x] := fun _ => by
  obtain ⟨b, o, e, hc⟩ := h (by simp)
  refine ⟨b, o, e, fun j hj => ?_⟩
  have : j = 0 := by simp at hj; omega
  subst this
  exact hc 0 (by simp)
/-- two lists, told in a new row -/
theorem lsts_two {w : World} {g h h' c c' : Nat} {x y : List UInt8} (hb : Box w g #[.slice (some ⟨h, 0, none⟩) 4096 c, .slice (some ⟨h', 0, none⟩) 4096 c'] 31) (hx : RowB w h c x) (hy : RowB w h' c' y) (lx : x.length = 4096) (ly : y.length = 4096) : Lsts w (some ⟨g, 0, none⟩) [x, y] := fun _ => by
  refine ⟨g, 0, rfl, fun j hj => ?_⟩
  have hj2 : j = 0 ∨ j = 1 := by simp at hj; omega
  rcases hj2 with rfl | rfl
  · exact lst_row (hb.cell 0) hx lx
  · exact lst_row (hb.cell 1) hy ly
theorem img_lit {w : World} {ga o b : Nat} {B : Int} {n c : Nat} {z : List UInt8} (h0 : w.cell? ⟨ga, o, none⟩ = some (.int .i64 B)) (h1 : w.cell? ⟨ga, o + 1, none⟩ = some (.slice (some ⟨b, 0, none⟩) n c)) (hz : z.length = n) (hc : n ≤ c) (hm : c ≤ 9223372036854775807) (hr : Rd w (some ⟨b, 0, none⟩) z) : ImgAt w ga o (B, z) :=
  ⟨h0, some ⟨b, 0, none⟩, c, by rw [hz]; exact h1, by rw [hz]; exact hc, hm, fun h => (by cases h), hr⟩
theorem imgs_lit1 {w : World} {ga b : Nat} {B : Int} {n c : Nat} {z : List UInt8} (hb : Box w ga #[.int .i64 B, .slice (some ⟨b, 0, none⟩) n c] 38) (hz : z.length = n) (hc : n ≤ c) (hm : c ≤ 9223372036854775807) (hr : Rd w (some ⟨b, 0, none⟩) z) : Imgs w (some ⟨ga, 0, none⟩) [(B, z)] := fun _ => by
  refine ⟨ga, 0, rfl, fun j hj => ?_⟩
  have : j = 0 := by simp at hj; omega
  subst this
  exact img_lit (hb.cell 0) (hb.cell 1) hz hc hm hr
theorem imgs_lit2 {w : World} {ga b b' : Nat} {B B' : Int} {n c : Nat} {z : List UInt8} (hb : Box w ga #[.int .i64 B, .slice (some ⟨b, 0, none⟩) n c, .int .i64 B', .slice (some ⟨b', 0, none⟩) n c] 38) (hz : z.length = n) (hc : n ≤ c) (hm : c ≤ 9223372036854775807) (hr : Rd w (some ⟨b, 0, none⟩) z) (hr' : Rd w (some ⟨b', 0, none⟩) z) : Imgs w (some ⟨ga, 0, none⟩) [(B, z), (B', z)] := fun _ => by
  refine ⟨ga, 0, rfl, fun j hj => ?_⟩
  have hj2 : j = 0 ∨ j = 1 := by simp at hj; omega
  rcases hj2 with rfl | rfl
  · exact img_lit (hb.cell 0) (hb.cell 1) hz hc hm hr
  · exact img_lit (hb.cell 2) (hb.cell 3) hz hc hm hr'

/-- what stands in the great conjunction -/
@[reducible] def NuE (w : World) (gl cl h0 hp cp : Nat) (f : List UInt8) (g : Nat) (a : Option Addr) (c : Nat) (u : World) : Prop :=
  u.cell? ⟨g, 0, none⟩ = some (.int .i64 8388608) ∧ u.cell? ⟨g, 1, none⟩ = some (.int .i64 549755813888) ∧ u.cell? ⟨g, 2, none⟩ = some (.slice a 32 c) ∧ Hid (OneS w u gl cl h0 hp cp f ∧ Imgs u a (manyL 32) ∧ Box u g #[.int .i64 8388608, .int .i64 549755813888, .slice a 32 c] 28)
section
variable {w u u' : World} {gl cl h0 hp cp g c : Nat} {f : List UInt8} {a : Option Addr}
theorem NuE.new (h1 : OneS w u gl cl h0 hp cp f) (h2 : Imgs u a (manyL 32)) (h3 : Box u g #[.int .i64 8388608, .int .i64 549755813888, .slice a 32 c] 28) : NuE w gl cl h0 hp cp f g a c u := ⟨h3.cell 0, h3.cell 1, h3.cell 2, ⟨h1, h2, h3⟩⟩
theorem NuE.below (b : Below u.heap.size u u') (h : NuE w gl cl h0 hp cp f g a c u) : NuE w gl cl h0 hp cp f g a c u' := NuE.new (h.2.2.2.out.1.below b) (h.2.2.2.out.2.1.below b) (h.2.2.2.out.2.2.below b)
theorem NuE.drew (h : NuE w gl cl h0 hp cp f g a c u) : NuE w gl cl h0 hp cp f g a c u.drew := NuE.below ((Below.refl _ u).drew) h
end
theorem one_sum (f : List UInt8) (hf : f.length = 4096) : ((bodyX (oneH f)).drop 2).take 4 = toBE 4 (crc 0 ((bodyX (oneH f)).drop 6)) := sum_plain _ 1 1 (one_body f hf)
theorem one_stamped (f : List UInt8) (hf : f.length = 4096) : stampedB (stB (mark 1 1) f) 1 1 = true := st_stamped (e := 1) (s := 1) (one_ok f hf) (40, f) (by simp)
theorem one_unstamped (f : List UInt8) (hf : f.length = 4096) : stampedB (stB (mark 1 1) f) 1 2 = false := by
  cases h : stampedB (stB (mark 1 1) f) 1 2 with
  | false => rfl
  | true =>
    unfold stampedB allMarked at h
    simp only [Bool.and_eq_true, List.all_eq_true] at h
    have h1 := h.2.2 0 (List.mem_finRange 0)
    have h2 := st_eight hf 0 (by omega)
    have h3 : (sec (stB (mark 1 1) f) (0 : Fin 8).val).take 8 = mark 1 1 := by
      unfold sec
      rw [List.take_take]
      exact h2
    rw [h3] at h1
    exact absurd h1 (by decide)

set_option maxRecDepth 100000 in
set_option maxHeartbeats 8000000 in
theorem numbers_at (w : World) : Calls Try.prog 3 #[] w fun r w' => r = .returned (.bool true) ∧ Below w.heap.size w w' := by
  have HONE : Hid (∀ u : World, Calls Try.prog 8 #[] u fun r w' => ∃ ga gd, r = .returned (.agg #[.int .i64 1, .int .i64 1, .slice (some ⟨ga, 0, none⟩) 1 1]) ∧ u.heap.size ≤ ga ∧ u.heap.size ≤ gd ∧ Box w' ga #[.int .i64 40, .slice (some ⟨gd, 0, none⟩) 4096 4096] 38 ∧ Own w' gd (fill 97) ∧ Below u.heap.size u w') := one_at
  have HA : Hid (∀ u : World, Calls Try.prog 18 #[] u fun r w' => r = .returned (.bool true) ∧ Below u.heap.size u w') := awake_at
  have hf : Hid ((fill 97).length = 4096) := fill_length 97
  have h97 : Hid (∀ i, i < 4096 → (fill 97)[i]? = some 97) := fill_get 97
  obtain ⟨f, hff⟩ : ∃ f, f = fill 97 := ⟨_, rfl⟩
  rw [← hff] at HONE hf h97
  clear hff
  have hok : Hid (okGroup ((1 : Nat) : Int) ((1 : Nat) : Int) [(40, f)]) := one_ok f hf.out
  go_enter Try.func3, Try.ntmps3
  go_wp2_with fail
  refine (HONE.out _).mono ?_
  rintro r w1 ⟨ga, gd, rfl, _, _, ba, od, b1⟩
  have cP := put_in 1 1 (some ⟨ga, 0, none⟩) 1 1 [(40, f)] w1 rfl (imgs_one ba od hf.out) hok.out (by omega) (by omega)
  clear ba od
  go_wp2_with fail
  refine cP.mono ?_
  rintro r w2 ⟨gl, cl, h0, ps, rfl, hgl, ho, hr, _, _, hj, hm, b2⟩
  clear cP
  obtain ⟨hp, cp, hS0⟩ := one_putS hgl ho hr hj hm b2
  have hcL2 : Hid (2 ≤ cl) := by
    rcases ho.2 with ⟨h1, _⟩ | ⟨g, cap, cur, h1, _, _, hnc, _⟩
    · cases h1
    · injection h1 with _ _ h3
      subst h3
      exact hnc
  have B2 := b1.trans (b2.mono b1.size)
  have hS : Hid (OneS w w2 gl cl h0 hp cp f) := ⟨hS0.l0, hS0.l1, hS0.gl0, hS0.r0, hS0.r1, B2⟩
  clear hS0 ho hr hj hm b1 b2 B2 hgl HONE
  go_wp2_with fail
  go_loopw [3] (fun v u => ∃ k : Nat, k ≤ 8 ∧ v = .int .i64 (k : Int) ∧ OneS w u gl cl h0 hp cp f) (fun i _ => 8 - (intOf i).toNat)
  case atStart => exact ⟨0, by omega, rfl, hS.out⟩
  case round =>
    clear hS
    obtain ⟨k, hk, rfl, hS⟩ := hrel
    have hcp : 4096 ≤ cp := by
      obtain ⟨cur, _, h1, _⟩ := hS.r1
      rw [stB_length _ f hf.out (mark_length _ _)] at h1
      exact h1
    by_cases hlt : k < 8
    · have hki : (k : Int) < 8 := by omega
      have e1 : (k : Int) * 512 ≤ (k : Int) * 512 + 9 := by omega
      have e2 : (k : Int) * 512 + 9 ≤ (cp : Int) := by omega
      have e3 : (k : Int) * 512 ≤ (k : Int) * 512 + 8 := by omega
      have e4 : (k : Int) * 512 + 8 ≤ (4096 : Int) := by omega
      have e5 : (8 : Int) ≤ (cp : Int) := by omega
      have e6 : (0 : Int) ≤ (k : Int) * 512 := by omega
      have hw1 : IntKind.i64.wrap ((k : Int) * 512) = (k : Int) * 512 := by rw [IntKind.wrap_i64]; omega
      have hw2 : IntKind.i64.wrap ((k : Int) * 512 + 9) = (k : Int) * 512 + 9 := by rw [IntKind.wrap_i64]; omega
      have hw3 : IntKind.i64.wrap ((k : Int) * 512 + 8) = (k : Int) * 512 + 8 := by rw [IntKind.wrap_i64]; omega
      have hz1 : ((k : Int) * 512).toNat = k * 512 := by omega
      have hz2 : ((k : Int) * 512 + 9).toNat = k * 512 + 9 := by omega
      have hz3 : ((k : Int) * 512 + 8).toNat = k * 512 + 8 := by omega
      have hy1 : ¬ cp = k * 512 := by omega
      have hy2 : ¬ 4096 = k * 512 := by omega
      have hlit : Hid (Rd (wr.alloc (.cells #[.int .u8 0, .int .u8 0, .int .u8 1, .int .u8 0, .int .u8 0, .int .u8 0, .int .u8 0, .int .u8 1, .int .u8 97] 5)).drew (some ⟨wr.heap.size, 0, none⟩) [0, 0, 1, 0, 0, 0, 0, 1, 97]) := (own_lit wr [0, 0, 1, 0, 0, 0, 0, 1, 97]).rd
      have hN0 : Hid (NuS w gl cl h0 hp cp f wr) := NuS.new hS
      have hN : Hid (NuS w gl cl h0 hp cp f wr.drew) := NuS.drew hN0.out
      clear hS
      go_upto_region 7 with fail
      go_region_held3 (fun u => u.cell? ⟨gl, 0, none⟩ = some (.slice (some ⟨h0, 0, none⟩) 4096 4096) ∧ u.cell? ⟨gl, 1, none⟩ = some (.slice (some ⟨hp, 0, none⟩) 4096 cp) ∧ Hid (OneS w u gl cl h0 hp cp f))
        (first | with_reducible exact hN.out | with_reducible exact NuS.alloc (by with_reducible assumption) | with_reducible exact NuS.adrew hN0.out | with_reducible assumption)
        (first
          | (go_at_call_of 9 (Value.slice (some ⟨wr.heap.size, 0, none⟩) 9 9); refine Calls.mono (NuS.nine (w := w) (gl := gl) (cl := cl) (h0 := h0) (cp := cp) hf.out h97.out k _ _ hlt (by with_reducible assumption) hlit.out) ?_; rintro e u9 ⟨rfl, rfl⟩)
          | (go_at_call 9; refine Calls.mono (NuS.eight (w := w) (gl := gl) (cl := cl) (cp := cp) hf.out k _ _ hlt (by with_reducible assumption)) ?_; rintro e u9 ⟨rfl, rfl⟩))
      have hS : Hid (OneS w _ gl cl h0 hp cp f) := (NuS.adrew (o := .cells #[.int .u8 0, .int .u8 0, .int .u8 1, .int .u8 0, .int .u8 0, .int .u8 0, .int .u8 0, .int .u8 1, .int .u8 97] 5) hN0.out).2.2
      clear hlit hN0 hN hw1 hw2 hw3 e1 e2 e3 e4 e5 e6 hz1 hz2 hz3 hy1 hy2
      generalize (wr.alloc (.cells #[.int .u8 0, .int .u8 0, .int .u8 1, .int .u8 0, .int .u8 0, .int .u8 0, .int .u8 0, .int .u8 1, .int .u8 97] 5)).drew = w5 at hS ⊢
      have cC := copyLists_at (some ⟨gl, 0, none⟩) 2 cl (putL 1 1 [(40, f)]) w5 rfl (by omega) (hS.out.lsts hf.out) (putL_len hok.out)
      go_wp2_with fail
      refine cC.mono ?_
      rintro r w6 ⟨v, qs, rfl, own, hJ, hq, b6⟩
      clear cC
      obtain ⟨av, cv, rfl⟩ := owns_shape own
      obtain ⟨gv, hgv, lgv, ⟨cur, xv⟩, hcv⟩ := owns_cells own (by omega)
      subst hgv
      have lq : qs.length = 2 := by
        have := congrArg List.length hq
        simpa [putL] using this
      obtain ⟨b, hb⟩ : ∃ b : Nat, (k : Int) % 2 = (b : Int) := ⟨k % 2, by omega⟩
      have hb2 : b < 2 := by omega
      have HB : Hid (b = k % 2) := by show b = k % 2; omega
      have hbq : b < qs.length := by omega
      have cb := hcv b (by omega)
      rw [show (lstC qs)[b]? = some (.slice (some ⟨(qs[b]).h, 0, none⟩) 4096 (qs[b]).c) by simp [lstC, hbq]] at cb
      obtain ⟨r1, r2, r3⟩ := hJ.rows qs[b] (List.getElem_mem hbq)
      obtain ⟨cj, fj⟩ := r1.cellAt (j := k * 512 + 7) (by omega)
      have J2 : Hid (GetJ w5.heap.size (w6.setCell ⟨(qs[b]).h, k * 512 + 7, none⟩ (.int .u8 2)) (byteP qs b (k * 512 + 7) 2)) := hJ.byte b hbq (k * 512 + 7) (by omega) 2
      have O2 : Hid ((w6.setCell ⟨(qs[b]).h, k * 512 + 7, none⟩ (.int .u8 2)).ownsRow w5.heap.size 31 1 (.slice (some ⟨gv, 0, none⟩) 2 cv) 2 (lstC (byteP qs b (k * 512 + 7) 2))) := by
        rw [byteP_c]
        exact owns_byte own r1 _
      have B7 : Hid (Below w5.heap.size w5 (w6.setCell ⟨(qs[b]).h, k * 512 + 7, none⟩ (.int .u8 2))) := b6.setCell (p := ⟨(qs[b]).h, k * 512 + 7, none⟩) r2 _
      have lp : Hid ((byteP qs b (k * 512 + 7) 2).length = 2) := by
        show _ = _
        simp [byteP, lq]
      have hno : Hid (¬ isGrp ((byteP qs b (k * 512 + 7) 2).map GG.xs)) := by
        rw [byteP_x, hq, HB.out]
        exact bad_no hf.out k hlt
      generalize (byteP qs b (k * 512 + 7) 2) = ts at J2 O2 lp hno
      generalize (((qs[b]).xs[k * 512 + 7]'(by omega)).toNat : Int) = cz at cj
      generalize (qs[b]).h = hB at cb cj fj J2 O2 B7
      generalize (qs[b]).c = cB at cb
      have hbi : (b : Int) < 2 := by omega
      have hk7 : (k : Int) * 512 + 7 < 4096 := by omega
      clear hcv own hJ hq r1 r2 r3 xv lgv b6 lq hbq
      go_wp2_with fail
      have cG := get_no (some ⟨gv, 0, none⟩) 2 cv (ts.map GG.xs) _ (by simpa using lp.out) (by omega) (by omega) (lsts_of O2.out J2.out lp.out) hno.out
      refine cG.mono ?_
      rintro r w8 ⟨rfl, b8⟩
      have hS8 : OneS w w8 gl cl h0 hp cp f := (hS.out.below B7.out).below b8
      replace hS8 := hS8.below ((Below.refl _ w8).alloc (Nat.le_refl _) (.cells #[.int .i64 0, .int .i64 0, .slice none 0 0] 28))
      clear cG b8 J2 O2 B7 hno lp cb cj fj hS
      go_wp2_with fail
      go_roundw
      case rel => exact ⟨k + 1, by omega, by push_cast; rfl, hS8⟩
      case measure => simp [intOf]; omega
    · have hk8 : k = 8 := by omega
      subst hk8
      clear hlt hk
      have L2 := hS.lsts hf.out
      have cG := get_no (some ⟨gl, 0, none⟩) 1 cl [oneH f] wr rfl (by omega) (by omega) (Lsts.head L2) (one_no hf.out)
      have HS : Hid (OneS w wr gl cl h0 hp cp f) := hS
      have hcl : (1 : Int) ≤ (cl : Int) := by
        have := hcL2.out
        omega
      clear hS L2
      go_wp2_with fail
      refine cG.mono ?_
      rintro r w3 ⟨rfl, b3⟩
      clear cG
      replace HS : Hid (OneS w _ gl cl h0 hp cp f) := (HS.out.below b3).below ((Below.refl _ w3).alloc (Nat.le_refl _) (.cells #[.int .i64 0, .int .i64 0, .slice none 0 0] 28))
      clear b3
      go_upto_region 15 with fail
      generalize (w3.alloc (.cells #[.int .i64 0, .int .i64 0, .slice none 0 0] 28)) = w4 at HS ⊢
      go_cut [9, 10] from 28 (fun _ v10 u => v10 = .int .i64 80 ∧ OneS w u gl cl h0 hp cp f)
      case first =>
        have hN0 : Hid (NuS w gl cl h0 hp cp f w4) := NuS.new HS.out
        have hB4 : w.heap.size ≤ w4.heap.size := HS.out.B.size
        have X1 : Hid (Box ((w4.alloc (.cells #[.slice (some ⟨hp, 0, none⟩) 4096 cp, .slice (some ⟨h0, 0, none⟩) 4096 4096] 31)).alloc (.cells #[.int .i64 0, .int .i64 0, .slice none 0 0] 28)).drew (w4.heap.size + 1) #[.int .i64 0, .int .i64 0, .slice none 0 0] 28) := by
          have := Box.new (w4.alloc (.cells #[.slice (some ⟨hp, 0, none⟩) 4096 cp, .slice (some ⟨h0, 0, none⟩) 4096 4096] 31)) #[.int .i64 0, .int .i64 0, .slice none 0 0] 28
          have hs : (w4.alloc (.cells #[.slice (some ⟨hp, 0, none⟩) 4096 cp, .slice (some ⟨h0, 0, none⟩) 4096 4096] 31)).heap.size = w4.heap.size + 1 := by simp
          rw [hs] at this
          exact this
        have X2 : Hid (Box ((w4.alloc (.cells #[.int .i64 0, .int .i64 0, .slice none 0 0] 28)).alloc (.cells #[.slice (some ⟨hp, 0, none⟩) 4096 cp, .slice (some ⟨h0, 0, none⟩) 4096 4096] 31)).drew w4.heap.size #[.int .i64 0, .int .i64 0, .slice none 0 0] 28) := (Box.new w4 #[.int .i64 0, .int .i64 0, .slice none 0 0] 28).alloc _
        have hB5 : w.heap.size ≤ w4.heap.size + 1 := Nat.le_succ_of_le hB4
        clear HS
        go_region_held3 (fun u => u.cell? ⟨gl, 0, none⟩ = some (.slice (some ⟨h0, 0, none⟩) 4096 4096) ∧ u.cell? ⟨gl, 1, none⟩ = some (.slice (some ⟨hp, 0, none⟩) 4096 cp) ∧ Hid (OneS w u gl cl h0 hp cp f))
          (first | with_reducible exact NuS.drew hN0.out | with_reducible exact NuS.adrew hN0.out | with_reducible exact NuS.drew (NuS.alloc (NuS.alloc hN0.out)) | with_reducible exact NuS.below b (by with_reducible assumption) | with_reducible exact NuS.alloc (by with_reducible assumption) | with_reducible exact NuS.put3 hB5 (X1.out.below b) (by with_reducible assumption) | with_reducible exact NuS.put3 hB4 (X2.out.below b) (by with_reducible assumption) | with_reducible assumption)
          (first | (go_at_call 11; refine Calls.mono (NuS.swap (w := w) (gl := gl) (cl := cl) (h0 := h0) (hp := hp) (cp := cp) hf.out h97.out (by with_reducible assumption) (by simp) (by simp)) ?_; rintro e u11 ⟨rfl, b⟩; have hbc : ∀ bb oo, bb < _ → u11.cell? ⟨bb, oo, none⟩ = _ := fun bb oo hh => b.cell (p := ⟨bb, oo, none⟩) hh; have hbf : ∀ bb oo, bb < _ → u11.frozen? ⟨bb, oo, none⟩ = _ := fun bb oo hh => b.frozen (p := ⟨bb, oo, none⟩) hh))
        all_goals
          go_wp2_with fail
          go_meet
          case rel => exact ⟨rfl, Hid.out (And.right (And.right (show NuS w gl cl h0 hp cp f _ by with_reducible assumption)))⟩
      case rest =>
        obtain ⟨rfl, hS⟩ := hcut
        have hS11 : Hid (OneS w wc gl cl h0 hp cp f) := hS
        clear hS HS
        generalize wc = w5 at hS11 ⊢
        go_wp2_with fail
        refine (get_none none 0 w5).mono ?_
        rintro r w6 (⟨⟨hz, _⟩, _⟩ | ⟨_, rfl, b6⟩)
        · simp at hz
        replace hS11 : Hid (OneS w _ gl cl h0 hp cp f) := (hS11.out.below b6).below ((Below.refl _ w6).alloc (Nat.le_refl _) (.cells #[.int .i64 0, .int .i64 0, .slice none 0 0] 28))
        clear b6
        have cP := put_no 1 1 none 0 0 [] (w6.alloc (.cells #[.int .i64 0, .int .i64 0, .slice none 0 0] 28)) rfl (by omega) (fun h => by simp at h) (no_none 1 1)
        go_wp2_with fail
        refine cP.mono ?_
        rintro r w7 ⟨rfl, b7⟩
        replace hS11 : Hid (OneS w _ gl cl h0 hp cp f) := hS11.out.below b7
        clear b7 cP
        go_wp2_with fail
        refine (many_at 33 33 w7 rfl (by omega)).mono ?_
        rintro r w8 ⟨a8, c8, rfl, i8, b8⟩
        replace hS11 : Hid (OneS w _ gl cl h0 hp cp f) := hS11.out.below b8
        have cP := put_no 8388608 549755813888 a8 33 c8 (manyL 33) w8 (manyL_length 33) (by omega) i8 (no_33 _ _)
        clear b8 i8
        go_wp2_with fail
        refine cP.mono ?_
        rintro r w9 ⟨rfl, b9⟩
        replace hS11 : Hid (OneS w _ gl cl h0 hp cp f) := hS11.out.below b9
        clear b9 cP
        have HF : Hid (∀ u : World, Calls Try.prog 13 #[.int .u8 0] u fun e w' => ∃ g, e = .returned (.slice (some ⟨g, 0, none⟩) 4096 4096) ∧ u.heap.size ≤ g ∧ Own w' g (fill 0) ∧ Below u.heap.size u w') := fun u => filled_at 0 0 u rfl
        have hz4 : Hid ((fill 0).length = 4096) := fill_length 0
        obtain ⟨z, hzz⟩ : ∃ z, z = fill 0 := ⟨_, rfl⟩
        rw [← hzz] at HF hz4
        clear hzz
        go_wp2_with fail
        refine (HF.out _).mono ?_
        rintro r wa ⟨ga1, rfl, _, oa, ba⟩
        go_wp2_with fail
        refine (HF.out _).mono ?_
        rintro r wb ⟨gb1, rfl, _, ob, bb⟩
        replace hS11 : Hid (OneS w _ gl cl h0 hp cp f) := (hS11.out.below ba).below bb
        have oa2 := oa.below bb oa.lt
        have xB := Box.new wb #[.int .i64 1, .slice (some ⟨ga1, 0, none⟩) 4096 4096, .int .i64 1, .slice (some ⟨gb1, 0, none⟩) 4096 4096] 38
        have bc := (Below.refl _ wb).alloc (Nat.le_refl _) (.cells #[.int .i64 1, .slice (some ⟨ga1, 0, none⟩) 4096 4096, .int .i64 1, .slice (some ⟨gb1, 0, none⟩) 4096 4096] 38)
        have cP := put_no 1 1 (some ⟨wb.heap.size, 0, none⟩) 2 2 [(1, z), (1, z)] (wb.alloc (.cells #[.int .i64 1, .slice (some ⟨ga1, 0, none⟩) 4096 4096, .int .i64 1, .slice (some ⟨gb1, 0, none⟩) 4096 4096] 38)) rfl (by omega) (imgs_lit2 xB hz4.out (by omega) (by omega) (oa2.below bc oa2.lt).rd (ob.below bc ob.lt).rd) (no_twice 1 1 z)
        replace hS11 : Hid (OneS w _ gl cl h0 hp cp f) := hS11.out.below bc
        clear oa ob oa2 ba bb bc xB
        go_wp2_with fail
        refine cP.mono ?_
        rintro r w10 ⟨rfl, b10⟩
        replace hS11 : Hid (OneS w _ gl cl h0 hp cp f) := hS11.out.below b10
        clear b10 cP
        go_wp2_with fail
        refine (HF.out _).mono ?_
        rintro r wa ⟨gc1, rfl, _, oa, ba⟩
        have xB := Box.new wa #[.int .i64 512, .slice (some ⟨gc1, 0, none⟩) 4096 4096] 38
        have bc := (Below.refl _ wa).alloc (Nat.le_refl _) (.cells #[.int .i64 512, .slice (some ⟨gc1, 0, none⟩) 4096 4096] 38)
        have cP := put_no 1 1 (some ⟨wa.heap.size, 0, none⟩) 1 1 [(512, z)] (wa.alloc (.cells #[.int .i64 512, .slice (some ⟨gc1, 0, none⟩) 4096 4096] 38)) rfl (by omega) (imgs_lit1 xB hz4.out (by omega) (by omega) (oa.below bc oa.lt).rd) (no_512 1 1 z)
        replace hS11 : Hid (OneS w _ gl cl h0 hp cp f) := (hS11.out.below ba).below bc
        clear oa ba bc xB
        go_wp2_with fail
        refine cP.mono ?_
        rintro r w12 ⟨rfl, b12⟩
        replace hS11 : Hid (OneS w _ gl cl h0 hp cp f) := hS11.out.below b12
        clear b12 cP
        go_wp2_with fail
        refine (HF.out _).mono ?_
        rintro r wa ⟨gd1, rfl, _, oa, ba⟩
        have xB := Box.new wa #[.int .i64 1, .slice (some ⟨gd1, 0, none⟩) 4095 4096] 38
        have bc := (Below.refl _ wa).alloc (Nat.le_refl _) (.cells #[.int .i64 1, .slice (some ⟨gd1, 0, none⟩) 4095 4096] 38)
        have lz5 : (z.take 4095).length = 4095 := by rw [List.length_take, hz4.out]; omega
        have rz5 : Rd (wa.alloc (.cells #[.int .i64 1, .slice (some ⟨gd1, 0, none⟩) 4095 4096] 38)) (some ⟨gd1, 0, none⟩) (z.take 4095) := by
          have := (oa.below bc oa.lt).rd.part 0 4095
          rw [List.drop_zero] at this
          exact this
        have cP := put_no 1 1 (some ⟨wa.heap.size, 0, none⟩) 1 1 [(1, z.take 4095)] (wa.alloc (.cells #[.int .i64 1, .slice (some ⟨gd1, 0, none⟩) 4095 4096] 38)) rfl (by omega) (imgs_lit1 xB lz5 (by omega) (by omega) rz5) (no_short 1 1 1 _ lz5)
        replace hS11 : Hid (OneS w _ gl cl h0 hp cp f) := (hS11.out.below ba).below bc
        clear oa ba bc xB lz5 rz5
        go_wp2_with fail
        refine cP.mono ?_
        rintro r w14 ⟨rfl, b14⟩
        replace hS11 : Hid (OneS w _ gl cl h0 hp cp f) := hS11.out.below b14
        clear b14 cP HF hz4
        go_wp2_with fail
        refine (many_at 32 32 w14 rfl (by omega)).mono ?_
        rintro r w15 ⟨a15, c15, rfl, i15, b15⟩
        replace hS11 : Hid (OneS w _ gl cl h0 hp cp f) := hS11.out.below b15
        have cP := putG_any 8388608 549755813888 a15 32 c15 (manyL 32) w15 (manyL_length 32) (by omega) i15
        clear b15 i15
        go_wp2_with fail
        refine cP.mono ?_
        rintro r w16 (⟨E, S, hE, hSS, hok2, gx, cx, rfl, hLx, b16⟩ | ⟨hno, _⟩)
        case inr => exact absurd ok_32 hno
        obtain rfl : E = 8388608 := by omega
        obtain rfl : S = 549755813888 := by omega
        replace hS11 : Hid (OneS w _ gl cl h0 hp cp f) := hS11.out.below b16
        clear b16 cP hE hSS
        have cG : Calls Try.prog 11 #[.slice (some ⟨gx, 0, none⟩) 33 cx] w16 fun r w' => ∃ a9 c9, r = .returned (.tuple #[.agg #[.int .i64 8388608, .int .i64 549755813888, .slice a9 32 c9], .int .i64 0]) ∧ Imgs w' a9 (manyL 32) ∧ Below w16.heap.size w16 w' := get_put 8388608 549755813888 (manyL 32) (some ⟨gx, 0, none⟩) 32 33 cx w16 hok2 (manyL_length 32) rfl hLx
        clear hLx
        go_wp2_with fail
        refine cG.mono ?_
        rintro r w17 ⟨a17, c17, rfl, i17, b17⟩
        clear cG hok2
        have ba := (Below.refl _ w17).alloc (Nat.le_refl _) (.cells #[.int .i64 8388608, .int .i64 549755813888, .slice a17 32 c17] 28)
        have hE0 : Hid (NuE w gl cl h0 hp cp f w17.heap.size a17 c17 (w17.alloc (.cells #[.int .i64 8388608, .int .i64 549755813888, .slice a17 32 c17] 28))) := NuE.new ((hS11.out.below b17).below ba) (i17.below ba) (Box.new w17 _ 28)
        obtain ⟨W, hW⟩ : ∃ u, u = w17.alloc (.cells #[.int .i64 8388608, .int .i64 549755813888, .slice a17 32 c17] 28) := ⟨_, rfl⟩
        obtain ⟨G, hG⟩ : ∃ g, g = w17.heap.size := ⟨_, rfl⟩
        rw [← hW, ← hG] at hE0
        have HW : Hid (W = w17.alloc (.cells #[.int .i64 8388608, .int .i64 549755813888, .slice a17 32 c17] 28)) := hW
        have HG : Hid (G = w17.heap.size) := hG
        clear hW hG ba b17 i17 hS11
        go_upto_region 24 with fail
        rw [← HW.out, ← HG.out]
        clear HW HG
        have hE : Hid (NuE w gl cl h0 hp cp f G a17 c17 W.drew) := NuE.drew hE0.out
        clear hE0
        go_region_held3 (fun u => u.cell? ⟨G, 0, none⟩ = some (.int .i64 8388608) ∧ u.cell? ⟨G, 1, none⟩ = some (.int .i64 549755813888) ∧ u.cell? ⟨G, 2, none⟩ = some (.slice a17 32 c17) ∧ Hid (OneS w u gl cl h0 hp cp f ∧ Imgs u a17 (manyL 32) ∧ Box u G #[.int .i64 8388608, .int .i64 549755813888, .slice a17 32 c17] 28))
          (first | with_reducible exact hE.out | with_reducible exact NuE.below b (by with_reducible assumption) | with_reducible assumption)
          (first
            | (go_at_call 12; refine Calls.mono (many_at 32 32 _ rfl (by omega)) ?_; rintro e u8 ⟨a18, c18, rfl, i18, b⟩)
            | (go_at_call 14; refine Calls.mono (sameGroup_at 8388608 549755813888 8388608 549755813888 a17 a18 32 c17 32 c18 (manyL 32) (manyL 32) _ (manyL_length 32) (manyL_length 32) (by omega) (show NuE w gl cl h0 hp cp f G a17 c17 _ by with_reducible assumption).2.2.2.out.2.1 i18) ?_; clear b; rintro e u14 ⟨rfl, b⟩; rw [decide_eq_true ⟨rfl, rfl, rfl⟩]; have hS14 : Hid (OneS w u14 gl cl h0 hp cp f) := ((show NuE w gl cl h0 hp cp f G a17 c17 _ by with_reducible assumption).2.2.2.out.1).below b))
        clear hE b i18
        have hl0 := hS14.out.l0
        have hl1 := hS14.out.l1
        have cS := sum_at h0 4096 (oneH f) u14 (one_len f hf.out) (by omega) hS14.out.r0.rd (one_sum f hf.out)
        go_wp2_with fail
        refine cS.mono ?_
        rintro r w20 ⟨rfl, b20⟩
        clear cS hl0 hl1
        replace hS14 : Hid (OneS w _ gl cl h0 hp cp f) := hS14.out.below b20
        clear b20
        have hst := stB_length (mark 1 1) f hf.out (mark_length _ _)
        obtain ⟨hc1, hc2⟩ : 4096 ≤ cp ∧ cp ≤ maxLen := by
          obtain ⟨cur, _, q1, q2, _⟩ := hS14.out.r1
          rw [hst] at q1
          exact ⟨q1, q2⟩
        have hl1 := hS14.out.l1
        have cS := stamped_at (some ⟨hp, 0, none⟩) 4096 cp (stB (mark 1 1) f) 1 2 w20 hst hc1 (cap_le hc2) hS14.out.r1.rd
        rw [one_unstamped f hf.out] at cS
        go_wp2_with fail
        refine cS.mono ?_
        rintro r w21 ⟨rfl, b21⟩
        clear cS hl1
        replace hS14 : Hid (OneS w _ gl cl h0 hp cp f) := hS14.out.below b21
        clear b21
        have hl1 := hS14.out.l1
        have cS := stamped_at (some ⟨hp, 0, none⟩) 4096 cp (stB (mark 1 1) f) 1 1 w21 hst hc1 (cap_le hc2) hS14.out.r1.rd
        rw [one_stamped f hf.out] at cS
        go_wp2_with fail
        refine cS.mono ?_
        rintro r w22 ⟨rfl, b22⟩
        clear cS hl1
        replace hS14 : Hid (OneS w _ gl cl h0 hp cp f) := hS14.out.below b22
        clear b22 hst hc1 hc2
        go_wp2_with fail
        refine (blocks_at 32 w22).mono ?_
        rintro r w23 ⟨rfl, rfl⟩
        rw [show blocksN 32 = 33 by decide]
        go_wp2_with fail
        refine (blocks_at 33 w22).mono ?_
        rintro r w23 ⟨rfl, rfl⟩
        rw [show blocksN 33 = 0 by decide]
        go_wp2_with fail
        refine (blocks_at 0 w22).mono ?_
        rintro r w23 ⟨rfl, rfl⟩
        rw [show blocksN 0 = 0 by decide]
        go_wp2_with fail
        refine (HA.out _).mono ?_
        rintro r w24 ⟨rfl, b24⟩
        have BF := hS14.out.B.trans (b24.mono hS14.out.B.size)
        go_wp2_with fail
        go_ret
        exact ⟨rfl, BF⟩
end Go.Proofs.Ytghcmlkgpedkkaa
