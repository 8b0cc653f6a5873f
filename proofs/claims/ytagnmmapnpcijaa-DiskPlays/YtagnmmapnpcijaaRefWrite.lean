/-
  The document's disk: Write.
-/
import Derived.Test.YtagnmmapnpcijaaRefOp
import Derived.Test.YtagnmmapnpcijaaRefRow
import Derived.Test.YtagnmmapnpcijaaRefImg
namespace Go.Proofs.Ytagnmmapnpcijaa
open Go.RowKit

theorem rwrite_no (a1 a2 : Option Addr) (n1 c1 n2 c2 : Nat) (cnt am fl : Int) (dn : Bool) (n : Int) (ab : Option Addr) (nb cb : Nat) (E : Int) (w : World) (_hn1 : n1 ≤ 9223372036854775807) (_hnb : nb ≤ 9223372036854775807) (h : (n < 0 ∧ E = 70) ∨ (0 ≤ n ∧ (n1 : Int) ≤ n ∧ E = 70) ∨ (0 ≤ n ∧ n < n1 ∧ nb ≠ 4096 ∧ E = 2)) :
    Calls Try.prog 48 #[.agg #[.slice a1 n1 c1, .slice a2 n2 c2, .int .i64 cnt, .bool dn, .int .i64 am, .int .i64 fl], .int .i64 n, .slice ab nb cb] w fun r w' => r = .returned (.tuple #[.agg #[.slice a1 n1 c1, .slice a2 n2 c2, .int .i64 cnt, .bool dn, .int .i64 am, .int .i64 fl], .int .i64 E]) ∧ Below w.heap.size w w' := by
  rcases h with ⟨h, rfl⟩ | ⟨h0, h, rfl⟩ | ⟨h0, h, hb, rfl⟩
  all_goals go_enter Try.func48, Try.ntmps48
  all_goals go_wp2
  all_goals
    refine bodyPost_ret (hd := rfl) (hR := ⟨rfl, ((Below.refl w.heap.size w).alloc (Nat.le_refl _) _).alloc (by simp) _⟩) (hr := ?_)
    simp [results, Try.results48, go_sem]

set_option maxRecDepth 100000 in
set_option maxHeartbeats 2000000 in
theorem rwrite_stop (a1 a2 : Option Addr) (n1 c1 n2 c2 : Nat) (cnt am fl : Int) (dn : Bool) (n : Nat) (ab : Option Addr) (cb : Nat) (E : Int) (w : World) (_hn1 : n1 ≤ 9223372036854775807) (hn : (n : Int) < (n1 : Int)) (h1 : -1 ≤ am) (h2 : am ≤ 9223372036854775807) (h3 : -1 ≤ fl) (h4 : fl ≤ 9223372036854775807) (hE : opE dn am fl = E) (h0 : E ≠ 0) :
    Calls Try.prog 48 #[.agg #[.slice a1 n1 c1, .slice a2 n2 c2, .int .i64 cnt, .bool dn, .int .i64 am, .int .i64 fl], .int .i64 n, .slice ab 4096 cb] w fun r w' => r = .returned (.tuple #[.agg #[.slice a1 n1 c1, .slice a2 n2 c2, .int .i64 cnt, .bool (dn || (am == 0)), .int .i64 (opA dn am), .int .i64 (opA dn fl)], .int .i64 E]) ∧ Below w.heap.size w w' := by
  have B0 := ((Below.refl w.heap.size w).alloc (Nat.le_refl _) (.cells #[.slice a1 n1 c1, .slice a2 n2 c2, .int .i64 cnt, .bool dn, .int .i64 am, .int .i64 fl] 49)).alloc (by simp) (.cells #[.slice none 0 0, .slice none 0 0, .int .i64 0, .bool false, .int .i64 0, .int .i64 0] 49)
  have y0 := Box.new (w.alloc (.cells #[.slice a1 n1 c1, .slice a2 n2 c2, .int .i64 cnt, .bool dn, .int .i64 am, .int .i64 fl] 49)) #[.slice none 0 0, .slice none 0 0, .int .i64 0, .bool false, .int .i64 0, .int .i64 0] 49
  have sz : (w.alloc (.cells #[.slice a1 n1 c1, .slice a2 n2 c2, .int .i64 cnt, .bool dn, .int .i64 am, .int .i64 fl] 49)).heap.size = w.heap.size + 1 := by simp
  rw [sz] at y0
  clear sz
  have cO := rop_at a1 a2 n1 c1 n2 c2 cnt am fl dn ((w.alloc (.cells #[.slice a1 n1 c1, .slice a2 n2 c2, .int .i64 cnt, .bool dn, .int .i64 am, .int .i64 fl] 49)).alloc (.cells #[.slice none 0 0, .slice none 0 0, .int .i64 0, .bool false, .int .i64 0, .int .i64 0] 49)) h1 h2 h3 h4
  rw [hE] at cO
  obtain ⟨d', hd'⟩ : ∃ d', d' = (dn || (am == 0)) := ⟨_, rfl⟩
  obtain ⟨A, hA⟩ : ∃ A, A = opA dn am := ⟨_, rfl⟩
  obtain ⟨L, hL⟩ : ∃ L, L = opA dn fl := ⟨_, rfl⟩
  rw [← hd', ← hA, ← hL] at cO
  rw [← hd', ← hA, ← hL]
  clear hd' hA hL hE h1 h2 h3 h4
  go_enter Try.func48, Try.ntmps48
  go_wp2_with fail
  refine cO.mono ?_
  rintro r w1 ⟨rfl, b1⟩
  have y1 := y0.below b1
  have B1 := B0.trans (b1.mono B0.size)
  have y2 := y1.alloc (.cells #[.slice a1 n1 c1, .slice a2 n2 c2, .int .i64 cnt, .bool d', .int .i64 A, .int .i64 L] 49)
  have B2 := B1.alloc B1.size (.cells #[.slice a1 n1 c1, .slice a2 n2 c2, .int .i64 cnt, .bool d', .int .i64 A, .int .i64 L] 49)
  clear cO b1 y0 y1 B0 B1
  obtain ⟨q0, q1, q2, q3, q4, q5⟩ := y2.all6
  obtain ⟨g0, g1, g2, g3, g4, g5⟩ := y2.fr6
  go_wp2_with fail
  refine bodyPost_ret (hd := rfl) (hR := ⟨rfl, ?_⟩) (hr := ?_)
  · simp [results, Try.results48, go_sem, *]
  · repeat (refine Below.setCell ?_ (by simp) _)
    exact B2
/-- blocks of other kinds than the law's boxes stay -/
def O49 (a w : World) : Prop := ∀ i cur t, Box a i cur t → t ≠ 49 → Box w i cur t
theorem O49.refl (a : World) : O49 a a := fun _ _ _ h _ => h
theorem O49.set {a w : World} {g j : Nat} {v : Value} {cb : Array Value} (h : O49 a w) (hb : Box w g cb 49) : O49 a (w.setCell ⟨g, j, none⟩ v) := fun i cur t hi ht =>
  (heap_setCell_other w ⟨g, j, none⟩ i v (fun e => (h i cur t hi ht).ne hb ht e)).trans (h i cur t hi ht)
theorem RD.o49 {w w' : World} {Q : Nat → Prop} {ad aw : Option Addr} {ns cs nw cw : Nat} {D : DS} (h : RD w Q ad aw ns cs nw cw D) (o : O49 w w') : RD w' Q ad aw ns cs nw cw D :=
  h.move (fun i _ _ ⟨cur, t, hi, ht⟩ => (o i cur t hi ht).trans hi.symm) (fun _ _ h => h)
theorem Box.away {w : World} {g g' j : Nat} {cs : Array Value} {t : TypeId} {v : Value} (h : Box w g cs t) (hn : g ≠ g') : Box (w.setCell ⟨g', j, none⟩ v) g cs t := (heap_setCell_other w ⟨g', j, none⟩ g v hn).trans h
/-- a row of the same writes, made since -/
def WrRow (w2 w' : World) (Q : Nat → Prop) (n : Nat) (v : Value) (ws : List (Nat × List UInt8)) : Prop :=
  (∃ a c, v = .slice a n c) ∧ (∃ xs : List Value, w'.ownsRow w2.heap.size 57 2 v n xs ∧ xs.length = n * 2 ∧ ∀ j y, ws[j]? = some y → xs[j * 2]? = some (.int .i64 (y.1 : Int)) ∧ ∃ u, xs[j * 2 + 1]? = some u ∧ BlkAt w2 Q u y.2) ∧ Below w2.heap.size w2 w'
/-- one write more: the row behind both appends -/
theorem wr_more {w w' : World} {Q : Nat → Prop} {B n : Nat} {v : Value} {xs : List Value} {ws : List (Nat × List UInt8)} (k : Nat) (u : Value) (x : List UInt8) (hl : ws.length = n) (hxl : xs.length = n * 2)
    (hx : ∀ j y, ws[j]? = some y → xs[j * 2]? = some (.int .i64 (y.1 : Int)) ∧ ∃ u, xs[j * 2 + 1]? = some u ∧ BlkAt w Q u y.2) (hk : ∀ u y, BlkAt w Q u y → BlkAt w' Q u y) (hu : BlkAt w' Q u x)
    (h : w'.ownsRow B 57 2 v (n + 1) (xs ++ [.int .i64 (k : Int), u])) (hQ : ∀ i, B ≤ i → Q i) : ∃ g c, v = .slice (some ⟨g, 0, none⟩) (n + 1) c ∧ WrAt w' Q (some ⟨g, 0, none⟩) (n + 1) c (ws ++ [(k, x)]) := by
  refine WrAt.of_own h (by omega) (by simp [hl]) hQ fun j y hy => ?_
  by_cases hj : j < n
  · rw [List.getElem?_append_left (by omega)] at hy
    obtain ⟨h1, u', h2, h3⟩ := hx j y hy
    exact ⟨by rw [List.getElem?_append_left (by omega)]; exact h1, u', by rw [List.getElem?_append_left (by omega)]; exact h2, hk _ _ h3⟩
  · have hj' : j = n := by have := (List.getElem?_eq_some_iff.1 hy).1; simp at this; omega
    subst hj'
    rw [List.getElem?_append_right (by omega), hl, Nat.sub_self] at hy
    simp at hy
    subst hy
    exact ⟨by rw [List.getElem?_append_right (by omega), hxl, Nat.sub_self]; rfl, u, by rw [List.getElem?_append_right (by omega), hxl, Nat.add_sub_cancel_left]; rfl, hu⟩

set_option maxRecDepth 100000 in
set_option maxHeartbeats 4000000 in
theorem rwrite_good {w : World} {Q : Nat → Prop} {a1 a2 : Option Addr} {n1 c1 n2 c2 : Nat} {D : DS} (h : RD w Q a1 a2 n1 c1 n2 c2 D) (hQ : ∀ i, w.heap.size ≤ i → Q i) (hlim : n2 ≤ 1000000) (cnt am fl : Int) (dn : Bool) (hcnt : 0 ≤ cnt ∧ cnt ≤ 1000000) (n : Nat) (ab : Option Addr) (cb : Nat) (b : List UInt8) (hb : b.length = 4096) (hrb : Rd w ab b) (hn : (n : Int) < (n1 : Int)) (h1 : -1 ≤ am) (h2 : am ≤ 9223372036854775807) (h3 : -1 ≤ fl) (h4 : fl ≤ 9223372036854775807) (hE : opE dn am fl = 0) :
    Calls Try.prog 48 #[.agg #[.slice a1 n1 c1, .slice a2 n2 c2, .int .i64 cnt, .bool dn, .int .i64 am, .int .i64 fl], .int .i64 n, .slice ab 4096 cb] w fun r w' => ∃ g c, r = .returned (.tuple #[.agg #[.slice a1 n1 c1, .slice (some ⟨g, 0, none⟩) (n2 + 1) c, .int .i64 (cnt + 1), .bool (dn || (am == 0)), .int .i64 (opA dn am), .int .i64 (opA dn fl)], .int .i64 0]) ∧
      SafeAt w' Q a1 n1 c1 (safeOf D) ∧ WrAt w' Q (some ⟨g, 0, none⟩) (n2 + 1) c (D.uf ++ [(n, b)]) ∧ Below w.heap.size w w' := by
  have B0 := ((Below.refl w.heap.size w).alloc (Nat.le_refl _) (.cells #[.slice a1 n1 c1, .slice a2 n2 c2, .int .i64 cnt, .bool dn, .int .i64 am, .int .i64 fl] 49)).alloc (by simp) (.cells #[.slice none 0 0, .slice none 0 0, .int .i64 0, .bool false, .int .i64 0, .int .i64 0] 49)
  have x0 := (Box.new w #[.slice a1 n1 c1, .slice a2 n2 c2, .int .i64 cnt, .bool dn, .int .i64 am, .int .i64 fl] 49).alloc (.cells #[.slice none 0 0, .slice none 0 0, .int .i64 0, .bool false, .int .i64 0, .int .i64 0] 49)
  have y0 := Box.new (w.alloc (.cells #[.slice a1 n1 c1, .slice a2 n2 c2, .int .i64 cnt, .bool dn, .int .i64 am, .int .i64 fl] 49)) #[.slice none 0 0, .slice none 0 0, .int .i64 0, .bool false, .int .i64 0, .int .i64 0] 49
  have sz : (w.alloc (.cells #[.slice a1 n1 c1, .slice a2 n2 c2, .int .i64 cnt, .bool dn, .int .i64 am, .int .i64 fl] 49)).heap.size = w.heap.size + 1 := by simp
  rw [sz] at y0
  clear sz
  have cO := rop_at a1 a2 n1 c1 n2 c2 cnt am fl dn ((w.alloc (.cells #[.slice a1 n1 c1, .slice a2 n2 c2, .int .i64 cnt, .bool dn, .int .i64 am, .int .i64 fl] 49)).alloc (.cells #[.slice none 0 0, .slice none 0 0, .int .i64 0, .bool false, .int .i64 0, .int .i64 0] 49)) h1 h2 h3 h4
  rw [hE] at cO
  obtain ⟨d', hd'⟩ : ∃ d', d' = (dn || (am == 0)) := ⟨_, rfl⟩
  obtain ⟨A, hA⟩ : ∃ A, A = opA dn am := ⟨_, rfl⟩
  obtain ⟨L, hL⟩ : ∃ L, L = opA dn fl := ⟨_, rfl⟩
  rw [← hd', ← hA, ← hL] at cO
  rw [← hd', ← hA, ← hL]
  clear hd' hA hL hE h1 h2 h3 h4
  obtain ⟨i0, hi, hz0, hz1, hz2⟩ := info_parts infoW
  have hn1 : n1 ≤ 9223372036854775807 := by have := h.ns; have := h.ok.hi; omega
  have H : Hid (RD w Q a1 a2 n1 c1 n2 c2 D) := h
  have Hb : Hid _ := hb
  have Hrb : Hid (Rd w ab b) := hrb
  have HQ : Hid _ := hQ
  clear h hb hrb hQ
  go_enter Try.func48, Try.ntmps48
  go_wp2_with fail
  refine cO.mono ?_
  rintro r w1 ⟨rfl, b1⟩
  have B1 := B0.trans (b1.mono B0.size)
  have x2 := (x0.below b1).alloc (.cells #[.slice a1 n1 c1, .slice a2 n2 c2, .int .i64 cnt, .bool d', .int .i64 A, .int .i64 L] 49)
  have y2 := (y0.below b1).alloc (.cells #[.slice a1 n1 c1, .slice a2 n2 c2, .int .i64 cnt, .bool d', .int .i64 A, .int .i64 L] 49)
  have t2 := Box.new w1 #[.slice a1 n1 c1, .slice a2 n2 c2, .int .i64 cnt, .bool d', .int .i64 A, .int .i64 L] 49
  have B2 := B1.alloc B1.size (.cells #[.slice a1 n1 c1, .slice a2 n2 c2, .int .i64 cnt, .bool d', .int .i64 A, .int .i64 L] 49)
  have gT : w.heap.size + 1 < w1.heap.size := (y0.below b1).lt
  clear cO b1 y0 x0 B0 B1
  obtain ⟨gt, hgt⟩ : ∃ gt, gt = w1.heap.size := ⟨_, rfl⟩
  obtain ⟨w2, hw2⟩ : ∃ w2, w2 = w1.alloc (.cells #[.slice a1 n1 c1, .slice a2 n2 c2, .int .i64 cnt, .bool d', .int .i64 A, .int .i64 L] 49) := ⟨_, rfl⟩
  rw [← hw2] at x2 y2 t2 B2
  rw [← hgt] at t2 gT
  obtain ⟨p0, p1, p2, p3, p4, p5⟩ := x2.all6
  have R2 := RD.below H.out B2
  have W2 := R2.wr
  have nz := R2.nw
  -- the first append: a row of the same writes
  have hfirst : ∀ (ops : Array Oper) (rest : List Oper) (o : Oper) (ac : Act) (QQ : Exit → Act → World → Prop), o.guard = none → (s x : Operand) → o.op = .call { callee := .builtin .append, args := #[s, x], argTypes := #[47, 47] } → ac.eval s = .slice none 0 0 → ac.eval x = .slice a2 n2 c2 →
      (∀ v w', WrRow w2 w' Q n2 v D.uf → wpList Try.prog ops QQ rest (ac.put o.dst v) w') → wpList Try.prog ops QQ (o :: rest) ac w2 := by
    intro ops rest o ac QQ hg s x ho hs hx hK
    by_cases h0 : n2 = 0
    · obtain ⟨rfl, rfl⟩ := W2.2.2.2.1 h0
      subst h0
      exact wpList_append_own_none hg s x 47 ho w2.heap.size 57 i0 2 Try.underlying47 hi (.slice none 0 0) 0 [] hs (World.ownsRow_nil _ _ _ _) hx (hK _ _ ⟨⟨_, _, rfl⟩, ⟨[], World.ownsRow_nil _ _ _ _, rfl, fun j y hy => by
        have := (List.getElem?_eq_some_iff.1 hy).1
        omega⟩, Below.refl _ _⟩)
    · obtain ⟨g, o', rfl, news, hl, hc, h1c, hj⟩ := W2.cells (by omega)
      refine wpList_append_own _ hg s x 47 ho w2.heap.size 57 i0 (.agg #[.int .i64 0, .slice none 0 0]) 2 32 Try.underlying47 hi hz0 hz1 hz2 rfl (by decide) (.slice none 0 0) 0 [] hs (World.ownsRow_nil _ _ _ _) ⟨g, o', none⟩ n2 c2 news hx hl hc h1c (by unfold maxLen; omega) (by omega) (Nat.le_refl _) ?_
      intro v' w' ow gr _
      rw [Nat.zero_add, List.nil_append] at ow
      refine hK v' w' ⟨?_, ⟨news, ow, hl, hj⟩, ⟨gr.os, gr.tape, gr.output, gr.size, fun q hq => gr.block q hq (by simp [Value.ownBlock])⟩⟩
      rcases ow.2 with ⟨_, h⟩ | ⟨g', c', cur, hv, _⟩
      · exact absurd h h0
      · exact ⟨_, c', hv⟩
  have Hf : Hid _ := hfirst
  have Hw2 : Hid _ := hw2
  have Hgt : Hid _ := hgt
  have HR2 : Hid (RD w2 Q a1 a2 n1 c1 n2 c2 D) := R2
  clear hfirst hw2 hgt R2 W2 nz
  go_upto_region 9 with fail
  rw [← Hw2.out, ← Hgt.out]
  go_wp2_with (at_builtin; refine Hf.out _ _ _ _ _ rfl _ _ rfl rfl rfl ?_)
  rintro v3 w3 hrow3
  obtain ⟨⟨a3, c3, rfl⟩, ⟨xs, o3, hxl, hxs⟩, b3⟩ := hrow3
  have x3 := x2.below b3
  have y3 := y2.below b3
  have t3 := t2.below b3
  have B3 := B2.trans (b3.mono B2.size)
  have R3 : RD w3 Q a1 a2 n1 c1 n2 c2 D := RD.below HR2.out b3
  have z23 := b3.size
  have zw2 : w.heap.size ≤ w2.heap.size := B2.size
  have cC := copyBytes_at cb 4096 ab b w3 Hb.out (by omega) (Hrb.out.below B3 (Nat.le_refl _)) (by
    intro e
    obtain ⟨_, _, e', _⟩ := Hrb.out (by rw [Hb.out]; omega)
    rw [e'] at e
    cases e)
  have Hxs : Hid _ := hxs
  have Ho3 : Hid (w3.ownsRow w2.heap.size 57 2 (.slice a3 n2 c3) n2 xs) := o3
  have Hb3 : Hid _ := b3
  clear hxs o3 b3 p0 p1 p2 p3 p4 p5 x2 y2 t2 B2 HR2 Hf
  go_wp2_with fail
  refine cC.mono ?_
  rintro r w4 ⟨v4, rfl, o4, b4⟩
  clear cC
  obtain ⟨gd, cd, rfl, hgd, r4⟩ := RowB.owns o4 (by omega)
  have o34 := World.ownsRow.kept (row := none) Ho3.out ⟨b4.os, b4.tape, b4.output, b4.size, fun q hq _ => b4.block q hq⟩ (Classical.em _)
  have A5 := (Below.refl w4.heap.size w4).alloc (Nat.le_refl _) (.cells #[.int .i64 (n : Int), .slice (some ⟨gd, 0, none⟩) 4096 cd] 57)
  have l5 := Box.new w4 #[.int .i64 (n : Int), .slice (some ⟨gd, 0, none⟩) 4096 cd] 57
  obtain ⟨gn, hgn⟩ : ∃ gn, gn = w4.heap.size := ⟨_, rfl⟩
  obtain ⟨w5, hw5⟩ : ∃ w5, w5 = w4.alloc (.cells #[.int .i64 (n : Int), .slice (some ⟨gd, 0, none⟩) 4096 cd] 57) := ⟨_, rfl⟩
  rw [← hw5] at A5 l5
  rw [← hgn] at l5
  have b45 := b4.trans (A5.mono b4.size)
  have b35 : Below w2.heap.size w2 w5 := Hb3.out.trans (b45.mono Hb3.out.size)
  have o5 := World.ownsRow.kept (row := none) o34 ⟨A5.os, A5.tape, A5.output, A5.size, fun q hq _ => A5.block q hq⟩ (Classical.em _)
  have r5 := r4.same (A5.block gd r4.lt)
  have x5 := x3.below b45
  have y5 := y3.below b45
  have t5 := t3.below b45
  have B5 := B3.trans (b45.mono B3.size)
  have R5 := R3.below b45
  have z35 := b45.size
  have Hw5 : Hid _ := hw5
  have Hgn : Hid _ := hgn
  clear o4 o34 b4 r4 A5 hw5 hgn x3 y3 t3 B3 R3 b45
  go_wp2_with (rw [← Hgn.out, ← Hw5.out]; at_builtin; refine wpList_append_own _ rfl _ _ 47 rfl w2.heap.size 57 i0 (.agg #[.int .i64 0, .slice none 0 0]) 2 32 Try.underlying47 hi hz0 hz1 hz2 rfl (by decide) (.slice a3 n2 c3) n2 xs rfl o5 ⟨gn, 0, none⟩ 1 1 [.int .i64 (n : Int), .slice (some ⟨gd, 0, none⟩) 4096 cd] rfl rfl ?n1 ?n2 (by unfold maxLen; omega) (by omega) (by omega) ?_)
  case n1 =>
    intro j u hj
    match j, hj with
    | 0, hj => simp at hj; subst hj; rw [Addr.add_lit]; exact l5.cell 0
    | 1, hj => simp at hj; subst hj; rw [Addr.add_lit]; exact l5.cell 1
  case n2 =>
    intro u hu
    simp at hu
    rcases hu with rfl | rfl <;> rfl
  rintro v6 w6 o6 gr6 hiff
  clear hiff
  have b26 : Below w2.heap.size w2 w6 := b35.grown gr6 b35.size (fun q e => (World.ownsRow.lt o5 q e).1)
  have B6 : Below w.heap.size w w6 := B5.grown gr6 B5.size (fun q e => Nat.le_trans zw2 (World.ownsRow.lt o5 q e).1)
  have x6 : Box w6 w.heap.size _ 49 := (gr6.block _ x5.lt (owns_ne o5 x5 (by decide))).trans x5
  have y6 : Box w6 (w.heap.size + 1) _ 49 := (gr6.block _ y5.lt (owns_ne o5 y5 (by decide))).trans y5
  have t6 : Box w6 gt _ 49 := (gr6.block _ t5.lt (owns_ne o5 t5 (by decide))).trans t5
  have r6 : RowB w6 gd cd b := r5.same (gr6.block gd r5.lt (by obtain ⟨cur5, hb5, _⟩ := r5; exact owns_ne o5 hb5 (by decide)))
  have hu6 : BlkAt w6 Q (.slice (some ⟨gd, 0, none⟩) 4096 cd) b := BlkAt.of_row r6 Hb.out (HQ.out gd (by omega))
  obtain ⟨g6, c6, rfl, W6⟩ := wr_more n _ b (by have := RD.nw H.out; omega) hxl Hxs.out (fun u y h => h.move (fun i hi _ _ => b26.block i hi) (fun _ _ h => h)) hu6 o6 (fun i hi => HQ.out i (by omega))
  have R6 : RD w6 Q a1 (some ⟨g6, 0, none⟩) n1 c1 (n2 + 1) c6 { D with uf := D.uf ++ [(n, b)] } := by
    have R := RD.below H.out B6
    exact ⟨R.safe, W6, ⟨R.ok.len, R.ok.lo, R.ok.hi, fun p hp => by
      rcases List.mem_append.1 hp with h | h
      · exact R.ok.each p h
      · have : p = (n, b) := by simpa using h
        subst this
        exact ⟨by have := R.ns; show n < D.nb; omega, Hb.out⟩, R.ok.arm, R.ok.fail⟩⟩
  have HR6 : Hid _ := R6
  have HB6 : Hid _ := B6
  clear R6 B6 W6 hu6 r6 o6 gr6 b26 o5 b35 r5 l5 x5 y5 t5 B5 R5 Hxs Ho3 Hb3 Hw5 Hgn x6
  obtain ⟨p0, p1, p2, p3, p4, p5⟩ := t6.all6
  obtain ⟨f0, f1, f2, f3, f4, f5⟩ := t6.fr6
  obtain ⟨q0, q1, q2, q3, q4, q5⟩ := y6.all6
  obtain ⟨g0, g1, g2, g3, g4, g5⟩ := y6.fr6
  have hne : gt ≠ w.heap.size + 1 := by omega
  go_wp2_with fail
  have key : O49 w6 w6 := O49.refl _
  have t7 := t6.store 1 (.slice (some ⟨g6, 0, none⟩) (n2 + 1) c6)
  have k7 := key.set (j := 1) (v := .slice (some ⟨g6, 0, none⟩) (n2 + 1) c6) t6
  have y7 := y6.away (j := 1) (v := .slice (some ⟨g6, 0, none⟩) (n2 + 1) c6) (fun e => hne e.symm)
  have t8 := t7.store 2 (.int .i64 (cnt + 1))
  have k8 := k7.set (j := 2) (v := .int .i64 (cnt + 1)) t7
  have y8 := y7.away (j := 2) (v := .int .i64 (cnt + 1)) (fun e => hne e.symm)
  have k9 := (((((k8.set (j := 0) (v := .slice a1 n1 c1) y8).set (j := 1) (v := .slice (some ⟨g6, 0, none⟩) (n2 + 1) c6) (y8.store 0 _)).set (j := 2) (v := .int .i64 (cnt + 1)) ((y8.store 0 _).store 1 _)).set (j := 3) (v := .bool d') (((y8.store 0 _).store 1 _).store 2 _)).set (j := 4) (v := .int .i64 A) ((((y8.store 0 _).store 1 _).store 2 _).store 3 _)).set (j := 5) (v := .int .i64 L) (((((y8.store 0 _).store 1 _).store 2 _).store 3 _).store 4 _)
  refine bodyPost_ret (v := .tuple #[.agg #[.slice a1 n1 c1, .slice (some ⟨g6, 0, none⟩) (n2 + 1) c6, .int .i64 (cnt + 1), .bool d', .int .i64 A, .int .i64 L], .int .i64 0]) ?_ rfl ⟨g6, c6, rfl, (RD.o49 HR6.out k9).safe, (RD.o49 HR6.out k9).wr, ?_⟩
  · simp [results, Try.results48, go_sem, q0, q1, q2, q3, q4, q5]
  · repeat (refine Below.setCell ?_ (by first | (simp; done) | (dsimp only; omega)) _)
    exact HB6.out
end Go.Proofs.Ytagnmmapnpcijaa
