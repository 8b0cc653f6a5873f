/-
  The document's disk: Flush.
-/
import Derived.Test.YtagnmmapnpcijaaRefWrite
namespace Go.Proofs.Ytagnmmapnpcijaa
open Go.RowKit

theorem BlkAt.move5 {w w' : World} {Q : Nat → Prop} {v : Value} {xs : List UInt8} (h : BlkAt w Q v xs) (hk : ∀ i cur, Box w i cur 5 → w'.heap[i]? = w.heap[i]?) : BlkAt w' Q v xs := by
  obtain ⟨p, o, c, hv, h1, h2, hq, ⟨cur, hb⟩, hl, hc⟩ := h
  have e := hk p cur hb
  exact ⟨p, o, c, hv, h1, h2, hq, ⟨cur, e.trans hb⟩, hl, fun j hj => (World.cell?_of_block (a := ⟨p, o + j, none⟩) e).trans (hc j hj)⟩

set_option maxRecDepth 100000 in
set_option maxHeartbeats 2000000 in
theorem rflush_stop (a1 a2 : Option Addr) (n1 c1 n2 c2 : Nat) (cnt am fl : Int) (dn : Bool) (E : Int) (w : World) (h1 : -1 ≤ am) (h2 : am ≤ 9223372036854775807) (h3 : -1 ≤ fl) (h4 : fl ≤ 9223372036854775807) (hE : opE dn am fl = E) (h0 : E ≠ 0) :
    Calls Try.prog 51 #[.agg #[.slice a1 n1 c1, .slice a2 n2 c2, .int .i64 cnt, .bool dn, .int .i64 am, .int .i64 fl]] w fun r w' => r = .returned (.tuple #[.agg #[.slice a1 n1 c1, .slice a2 n2 c2, .int .i64 cnt, .bool (dn || (am == 0)), .int .i64 (opA dn am), .int .i64 (opA dn fl)], .int .i64 E]) ∧ Below w.heap.size w w' := by
  have B0 := ((Below.refl w.heap.size w).alloc (Nat.le_refl _) (.cells #[.slice a1 n1 c1, .slice a2 n2 c2, .int .i64 cnt, .bool dn, .int .i64 am, .int .i64 fl] 49)).alloc (by simp) (.cells #[.slice none 0 0, .slice none 0 0, .int .i64 0, .bool false, .int .i64 0, .int .i64 0] 49)
  have y0 := Box.new (w.alloc (.cells #[.slice a1 n1 c1, .slice a2 n2 c2, .int .i64 cnt, .bool dn, .int .i64 am, .int .i64 fl] 49)) #[.slice none 0 0, .slice none 0 0, .int .i64 0, .bool false, .int .i64 0, .int .i64 0] 49
  have sz : (w.alloc (.cells #[.slice a1 n1 c1, .slice a2 n2 c2, .int .i64 cnt, .bool dn, .int .i64 am, .int .i64 fl] 49)).heap.size = w.heap.size + 1 := by simp
  rw [sz] at y0
  clear sz
  have cO := rop_at a1 a2 n1 c1 n2 c2 cnt am fl dn ((w.alloc (.cells #[.slice a1 n1 c1, .slice a2 n2 c2, .int .i64 cnt, .bool dn, .int .i64 am, .int .i64 fl] 49)).alloc (.cells #[.slice none 0 0, .slice none 0 0, .int .i64 0, .bool false, .int .i64 0, .int .i64 0] 49)) h1 h2 h3 h4
  rw [hE] at cO
  obtain ⟨d', hd'⟩ : ∃ d', d' = (dn || (am == 0)) := ⟨_, rfl⟩
  obtain ⟨A, hA⟩ : ∃ A, A = opA dn am := ⟨_, rfl⟩
  obtain ⟨L, hL⟩ : ∃ L, L = opA dn fl := ⟨_, rfl⟩
  rw [← hd', ← hA, ← hL] at cO
  rw [← hd', ← hA, ← hL]
  clear hd' hA hL hE h1 h2 h3 h4
  go_enter Try.func51, Try.ntmps51
  go_wp2_with fail
  refine cO.mono ?_
  rintro r w1 ⟨rfl, b1⟩
  have y1 := y0.below b1
  have B1 := B0.trans (b1.mono B0.size)
  have y2 := y1.alloc (.cells #[.slice a1 n1 c1, .slice a2 n2 c2, .int .i64 cnt, .bool d', .int .i64 A, .int .i64 L] 49)
  have B2 := B1.alloc B1.size (.cells #[.slice a1 n1 c1, .slice a2 n2 c2, .int .i64 cnt, .bool d', .int .i64 A, .int .i64 L] 49)
  clear cO b1 y0 y1 B0 B1
  obtain ⟨q0, q1, q2, q3, q4, q5⟩ := y2.all6
  obtain ⟨g0, g1, g2, g3, g4, g5⟩ := y2.fr6
  go_wp2_with fail
  refine bodyPost_ret (hd := rfl) (hR := ⟨rfl, ?_⟩) (hr := ?_)
  · simp [results, Try.results51, go_sem, *]
  · repeat (refine Below.setCell ?_ (by simp) _)
    exact B2

def standsOf (D : DS) : List (List UInt8) := (List.range D.nb).map D.stand
theorem standsOf_get (D : DS) (k : Nat) (h : k < D.nb) : (standsOf D)[k]? = some (D.stand k) := by simp [standsOf, h]
theorem standsOf_length (D : DS) : (standsOf D).length = D.nb := by simp [standsOf]

set_option maxRecDepth 100000 in
set_option maxHeartbeats 4000000 in
theorem rflush_good {w : World} {Q : Nat → Prop} {a1 a2 : Option Addr} {n1 c1 n2 c2 : Nat} {D : DS} (h : RD w Q a1 a2 n1 c1 n2 c2 D) (hQ : ∀ i, w.heap.size ≤ i → Q i) (cnt am fl : Int) (dn : Bool) (h1 : -1 ≤ am) (h2 : am ≤ 9223372036854775807) (h3 : -1 ≤ fl) (h4 : fl ≤ 9223372036854775807) (hE : opE dn am fl = 0) :
    Calls Try.prog 51 #[.agg #[.slice a1 n1 c1, .slice a2 n2 c2, .int .i64 cnt, .bool dn, .int .i64 am, .int .i64 fl]] w fun r w' => ∃ g c, r = .returned (.tuple #[.agg #[.slice (some ⟨g, 0, none⟩) n1 c, .slice none 0 0, .int .i64 cnt, .bool (dn || (am == 0)), .int .i64 (opA dn am), .int .i64 (opA dn fl)], .int .i64 0]) ∧
      SafeAt w' Q (some ⟨g, 0, none⟩) n1 c (standsOf D) ∧ Below w.heap.size w w' := by
  have B0 := ((Below.refl w.heap.size w).alloc (Nat.le_refl _) (.cells #[.slice a1 n1 c1, .slice a2 n2 c2, .int .i64 cnt, .bool dn, .int .i64 am, .int .i64 fl] 49)).alloc (by simp) (.cells #[.slice none 0 0, .slice none 0 0, .int .i64 0, .bool false, .int .i64 0, .int .i64 0] 49)
  have x0 := (Box.new w #[.slice a1 n1 c1, .slice a2 n2 c2, .int .i64 cnt, .bool dn, .int .i64 am, .int .i64 fl] 49).alloc (.cells #[.slice none 0 0, .slice none 0 0, .int .i64 0, .bool false, .int .i64 0, .int .i64 0] 49)
  have y0 := Box.new (w.alloc (.cells #[.slice a1 n1 c1, .slice a2 n2 c2, .int .i64 cnt, .bool dn, .int .i64 am, .int .i64 fl] 49)) #[.slice none 0 0, .slice none 0 0, .int .i64 0, .bool false, .int .i64 0, .int .i64 0] 49
  have sz : (w.alloc (.cells #[.slice a1 n1 c1, .slice a2 n2 c2, .int .i64 cnt, .bool dn, .int .i64 am, .int .i64 fl] 49)).heap.size = w.heap.size + 1 := by simp
  rw [sz] at y0
  clear sz
  have cO := rop_at a1 a2 n1 c1 n2 c2 cnt am fl dn ((w.alloc (.cells #[.slice a1 n1 c1, .slice a2 n2 c2, .int .i64 cnt, .bool dn, .int .i64 am, .int .i64 fl] 49)).alloc (.cells #[.slice none 0 0, .slice none 0 0, .int .i64 0, .bool false, .int .i64 0, .int .i64 0] 49)) h1 h2 h3 h4
  rw [hE] at cO
  obtain ⟨d', hd'⟩ : ∃ d', d' = (dn || (am == 0)) := ⟨_, rfl⟩
  obtain ⟨A, hA⟩ : ∃ A, A = opA dn am := ⟨_, rfl⟩
  obtain ⟨L, hL⟩ : ∃ L, L = opA dn fl := ⟨_, rfl⟩
  rw [← hd', ← hA, ← hL] at cO
  rw [← hd', ← hA, ← hL]
  clear hd' hA hL hE h1 h2 h3 h4
  obtain ⟨i0, hi, hz0, hz1, hz2⟩ := info_parts info27'
  have hn1 : 1 ≤ n1 ∧ n1 ≤ 512 := by have := h.ns; have := h.ok.hi; have := h.ok.lo; omega
  have H : Hid (RD w Q a1 a2 n1 c1 n2 c2 D) := h
  have HQ : Hid _ := hQ
  have He : Hid _ := h.ns
  clear h hQ
  go_enter Try.func51, Try.ntmps51
  go_wp2_with fail
  refine cO.mono ?_
  rintro r w1 ⟨rfl, b1⟩
  have B1 := B0.trans (b1.mono B0.size)
  have x2 := (x0.below b1).alloc (.cells #[.slice a1 n1 c1, .slice a2 n2 c2, .int .i64 cnt, .bool d', .int .i64 A, .int .i64 L] 49)
  have y2 := (y0.below b1).alloc (.cells #[.slice a1 n1 c1, .slice a2 n2 c2, .int .i64 cnt, .bool d', .int .i64 A, .int .i64 L] 49)
  have t2 := Box.new w1 #[.slice a1 n1 c1, .slice a2 n2 c2, .int .i64 cnt, .bool d', .int .i64 A, .int .i64 L] 49
  have B2 := B1.alloc B1.size (.cells #[.slice a1 n1 c1, .slice a2 n2 c2, .int .i64 cnt, .bool d', .int .i64 A, .int .i64 L] 49)
  have gT : w.heap.size + 1 < w1.heap.size := (y0.below b1).lt
  clear cO b1 y0 x0 B0 B1
  obtain ⟨gt, hgt⟩ : ∃ gt, gt = w1.heap.size := ⟨_, rfl⟩
  obtain ⟨w2, hw2⟩ : ∃ w2, w2 = w1.alloc (.cells #[.slice a1 n1 c1, .slice a2 n2 c2, .int .i64 cnt, .bool d', .int .i64 A, .int .i64 L] 49) := ⟨_, rfl⟩
  rw [← hw2] at x2 y2 t2 B2
  rw [← hgt] at t2 gT
  have Hw2 : Hid _ := hw2
  have Hgt : Hid _ := hgt
  clear hw2 hgt
  have zw2 : w.heap.size ≤ w2.heap.size := B2.size
  go_wp2_with fail
  rw [← Hw2.out, ← Hgt.out]
  go_loopw [6, 7] (fun v i wr => ∃ (k : Nat) (a : Option Addr) (c : Nat) (xs : List Value), k ≤ n1 ∧ v = .slice a k c ∧ i = .int .i64 k ∧ wr.ownsRow w.heap.size 27 1 v k xs ∧ xs.length = k ∧ (∀ (j : Nat) (x : List UInt8), j < k → (standsOf D)[j]? = some x → ∃ u, xs[j]? = some u ∧ BlkAt wr Q u x) ∧ Box wr w.heap.size #[.slice a1 n1 c1, .slice a2 n2 c2, .int .i64 cnt, .bool dn, .int .i64 am, .int .i64 fl] 49 ∧ Box wr (w.heap.size + 1) #[.slice none 0 0, .slice none 0 0, .int .i64 0, .bool false, .int .i64 0, .int .i64 0] 49 ∧ Box wr gt #[.slice a1 n1 c1, .slice a2 n2 c2, .int .i64 cnt, .bool d', .int .i64 A, .int .i64 L] 49 ∧ Below w.heap.size w wr) (fun _ i _ => n1 - (intOf i).toNat)
  case atStart => exact ⟨0, none, 0, [], by omega, rfl, rfl, World.ownsRow_nil _ _ _ _, rfl, fun j x hj => by omega, x2, y2, t2, B2⟩
  case round =>
    clear x2 y2 t2 B2
    obtain ⟨k, a, c, xs, hk, rfl, rfl, ho, hxl, hxs, x, y, t, B⟩ := hrel
    obtain ⟨p0, p1, p2, p3, p4, p5⟩ := x.all6
    by_cases hlt : k < n1
    · have hlt2 : (k : Int) < (n1 : Int) := by omega
      have hkD : k < D.nb := by rw [← He.out]; exact hlt
      have cA := rat_at (RD.below H.out B) cnt am fl dn k hkD
      have Ho : Hid (wr.ownsRow w.heap.size 27 1 (.slice a k c) k xs) := ho
      have Hxs : Hid _ := hxs
      have Hx : Hid _ := x
      have Hy : Hid _ := y
      have Ht : Hid _ := t
      have HB : Hid _ := B
      clear ho hxs x y t B
      go_wp2_with fail
      refine cA.mono ?_
      rintro r w3 ⟨p, o, c', rfl, hb, b3⟩
      clear cA p0 p1 p2 p3 p4 p5
      have A4 := (Below.refl w3.heap.size w3).alloc (Nat.le_refl _) (.cells #[.slice (some ⟨p, o, none⟩) 4096 c'] 27)
      have l4 := Box.new w3 #[.slice (some ⟨p, o, none⟩) 4096 c'] 27
      obtain ⟨gn, hgn⟩ : ∃ gn, gn = w3.heap.size := ⟨_, rfl⟩
      obtain ⟨w4, hw4⟩ : ∃ w4, w4 = w3.alloc (.cells #[.slice (some ⟨p, o, none⟩) 4096 c'] 27) := ⟨_, rfl⟩
      rw [← hw4] at A4 l4
      rw [← hgn] at l4
      have b34 := b3.trans (A4.mono b3.size)
      have o4 := World.ownsRow.kept (row := none) Ho.out ⟨b34.os, b34.tape, b34.output, b34.size, fun q hq _ => b34.block q hq⟩ (Classical.em _)
      have x4 := Box.below Hx.out b34
      have y4 := Box.below Hy.out b34
      have t4 := Box.below Ht.out b34
      have B4 := HB.out.trans (b34.mono HB.out.size)
      have hb4 : BlkAt w4 Q (.slice (some ⟨p, o, none⟩) 4096 c') (D.stand k) := hb.move (fun i hi _ _ => A4.block i hi) (fun _ _ h => h)
      have Hw4 : Hid _ := hw4
      have Hgn : Hid _ := hgn
      have Hb34 : Hid _ := b34
      clear b3 b34 A4 hb hw4 hgn Ho Hx Hy Ht HB
      go_wp2_with (rw [← Hgn.out, ← Hw4.out]; at_builtin; refine wpList_append_own _ rfl _ _ 46 rfl w.heap.size 27 i0 (.slice none 0 0) 1 24 Try.underlying46 hi hz0 hz1 hz2 rfl (by decide) (.slice a k c) k xs rfl o4 ⟨gn, 0, none⟩ 1 1 [.slice (some ⟨p, o, none⟩) 4096 c'] rfl rfl ?n1 ?n2 (by unfold maxLen; omega) (by omega) B4.size ?_)
      case n1 =>
        intro j u hj
        match j, hj with
        | 0, hj => simp at hj; subst hj; rw [Addr.add_lit]; exact l4.cell 0
      case n2 =>
        intro u hu
        simp at hu
        subst hu
        rfl
      rintro v5 w5 o5 gr5 hiff
      clear hiff
      obtain ⟨a5, c5, rfl⟩ : ∃ a c, v5 = .slice a (k + 1) c := by
        rcases o5.2 with ⟨_, h⟩ | ⟨g', c', cur, hv, _⟩
        · omega
        · exact ⟨_, c', hv⟩
      have x5 : Box w5 w.heap.size _ 49 := (gr5.block _ x4.lt (owns_ne o4 x4 (by decide))).trans x4
      have y5 : Box w5 (w.heap.size + 1) _ 49 := (gr5.block _ y4.lt (owns_ne o4 y4 (by decide))).trans y4
      have t5 : Box w5 gt _ 49 := (gr5.block _ t4.lt (owns_ne o4 t4 (by decide))).trans t4
      have B5 : Below w.heap.size w w5 := B4.grown gr5 B4.size (fun q e => (World.ownsRow.lt o4 q e).1)
      have mv : ∀ u y, BlkAt w4 Q u y → BlkAt w5 Q u y := fun u y h => h.move5 (fun i cur hi => gr5.block i hi.lt (owns_ne o4 hi (by decide)))
      have hxs5 : ∀ (j : Nat) (x : List UInt8), j < k + 1 → (standsOf D)[j]? = some x → ∃ u, (xs ++ [.slice (some ⟨p, o, none⟩) 4096 c'])[j]? = some u ∧ BlkAt w5 Q u x := by
        intro j x hj hx
        by_cases hjk : j < k
        · obtain ⟨u, h1, h2⟩ := Hxs.out j x hjk hx
          exact ⟨u, by rw [List.getElem?_append_left (by omega)]; exact h1, mv _ _ (h2.move (fun i hi _ _ => Hb34.out.block i hi) (fun _ _ h => h))⟩
        · have hje : j = k := by omega
          subst hje
          rw [standsOf_get D j hkD] at hx
          cases hx
          exact ⟨_, by rw [List.getElem?_append_right (by omega), hxl, Nat.sub_self]; rfl, mv _ _ hb4⟩
      have Ho5 : Hid (w5.ownsRow w.heap.size 27 1 (.slice a5 (k + 1) c5) (k + 1) (xs ++ [.slice (some ⟨p, o, none⟩) 4096 c'])) := o5
      have Hxs5 : Hid _ := hxs5
      clear o5 hxs5 mv gr5 o4 x4 y4 t4 B4 hb4 l4 Hxs Hb34 Hw4 Hgn
      go_wp2_with fail
      go_roundw
      case rel => exact ⟨k + 1, a5, c5, _, by omega, rfl, by go_num, Ho5.out, by simp [hxl], Hxs5.out, x5, y5, t5, B5⟩
      case measure => simp [intOf]; omega
    · have hkn : k = n1 := by omega
      rw [hkn] at ho hxs
      rw [hkn]
      obtain ⟨g6, c6, e6, S6⟩ := SafeAt.of_own ho (by omega) (by rw [standsOf_length, He.out]) (fun i hi => HQ.out i hi) (fun j x hx => hxs j x (by have := (List.getElem?_eq_some_iff.1 hx).1; rw [standsOf_length, ← He.out] at this; exact this) hx)
      cases e6
      clear hkn hxl
      have HS6 : Hid _ := S6
      have HB6 : Hid _ := B
      clear S6 B ho hxs x p1 p2 p3 p4 p5
      obtain ⟨e0, e1, e2, e3, e4, e5⟩ := t.all6
      obtain ⟨f0, f1, f2, f3, f4, f5⟩ := t.fr6
      obtain ⟨q0, q1, q2, q3, q4, q5⟩ := y.all6
      obtain ⟨g0, g1, g2, g3, g4, g5⟩ := y.fr6
      have hne : gt ≠ w.heap.size + 1 := by omega
      go_wp2_with fail
      have key : O49 wr wr := O49.refl _
      have t7 := t.store 0 (.slice (some ⟨g6, 0, none⟩) n1 c)
      have k7 := key.set (j := 0) (v := .slice (some ⟨g6, 0, none⟩) n1 c) t
      have y7 := y.away (j := 0) (v := .slice (some ⟨g6, 0, none⟩) n1 c) (fun e => hne e.symm)
      have k8 := k7.set (j := 1) (v := .slice none 0 0) t7
      have y8 := y7.away (j := 1) (v := .slice none 0 0) (fun e => hne e.symm)
      have k9 := (((((k8.set (j := 0) (v := .slice (some ⟨g6, 0, none⟩) n1 c) y8).set (j := 1) (v := .slice none 0 0) (y8.store 0 _)).set (j := 2) (v := .int .i64 cnt) ((y8.store 0 _).store 1 _)).set (j := 3) (v := .bool d') (((y8.store 0 _).store 1 _).store 2 _)).set (j := 4) (v := .int .i64 A) ((((y8.store 0 _).store 1 _).store 2 _).store 3 _)).set (j := 5) (v := .int .i64 L) (((((y8.store 0 _).store 1 _).store 2 _).store 3 _).store 4 _)
      refine bodyPost_ret (v := .tuple #[.agg #[.slice (some ⟨g6, 0, none⟩) n1 c, .slice none 0 0, .int .i64 cnt, .bool d', .int .i64 A, .int .i64 L], .int .i64 0]) ?_ rfl ⟨g6, c, rfl, SafeAt.move HS6.out (fun i _ _ ⟨cur, t, hi, ht⟩ => (k9 i cur t hi ht).trans hi.symm) (fun _ _ h => h), ?_⟩
      · simp [results, Try.results51, go_sem, q0, q1, q2, q3, q4, q5]
      · repeat (refine Below.setCell ?_ (by first | (simp; done) | (dsimp only; omega)) _)
        exact HB6.out
end Go.Proofs.Ytagnmmapnpcijaa
