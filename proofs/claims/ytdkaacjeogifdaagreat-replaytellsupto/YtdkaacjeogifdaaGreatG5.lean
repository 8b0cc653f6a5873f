/-
  DkRefWrite, DkRefFlush, DkRefAll, HRefHo, HTellP, HDo, HRefDn, HRefDs, HLate, HRefDo, DkRefArm, DkImage, HTellS: put together.
-/
import Derived.Test.YtdkaacjeogifdaaGreatG4
import Derived.Deep.QuietTactic
/-
  The document's disk: Write.
-/
namespace Go.Proofs.YtdkaacjeogifdaaGreat.Dk
open Go.RowKit

theorem rwrite_no (a1 a2 : Option Addr) (n1 c1 n2 c2 : Nat) (cnt am fl : Int) (dn : Bool) (n : Int) (ab : Option Addr) (nb cb : Nat) (E : Int) (w : World) (_hn1 : n1 ≤ 9223372036854775807) (_hnb : nb ≤ 9223372036854775807) (h : (n < 0 ∧ E = 70) ∨ (0 ≤ n ∧ (n1 : Int) ≤ n ∧ E = 70) ∨ (0 ≤ n ∧ n < n1 ∧ nb ≠ 4096 ∧ E = 2)) :
    Calls Tryz.prog 43 #[.agg #[.slice a1 n1 c1, .slice a2 n2 c2, .int .i64 cnt, .bool dn, .int .i64 am, .int .i64 fl], .int .i64 n, .slice ab nb cb] w fun r w' => r = .returned (.tuple #[.agg #[.slice a1 n1 c1, .slice a2 n2 c2, .int .i64 cnt, .bool dn, .int .i64 am, .int .i64 fl], .int .i64 E]) ∧ Below w.heap.size w w' := by
  rcases h with ⟨h, rfl⟩ | ⟨h0, h, rfl⟩ | ⟨h0, h, hb, rfl⟩
  all_goals go_enter Tryz.func43, Tryz.ntmps43
  all_goals go_wp2
  all_goals
    refine bodyPost_ret (hd := rfl) (hR := ⟨rfl, ((Below.refl w.heap.size w).alloc (Nat.le_refl _) _).alloc (by simp) _⟩) (hr := ?_)
    simp [results, Tryz.results43, go_sem]

set_option maxRecDepth 100000 in
set_option maxHeartbeats 2000000 in
theorem rwrite_stop (a1 a2 : Option Addr) (n1 c1 n2 c2 : Nat) (cnt am fl : Int) (dn : Bool) (n : Nat) (ab : Option Addr) (cb : Nat) (E : Int) (w : World) (_hn1 : n1 ≤ 9223372036854775807) (hn : (n : Int) < (n1 : Int)) (h1 : -1 ≤ am) (h2 : am ≤ 9223372036854775807) (h3 : -1 ≤ fl) (h4 : fl ≤ 9223372036854775807) (hE : opE dn am fl = E) (h0 : E ≠ 0) :
    Calls Tryz.prog 43 #[.agg #[.slice a1 n1 c1, .slice a2 n2 c2, .int .i64 cnt, .bool dn, .int .i64 am, .int .i64 fl], .int .i64 n, .slice ab 4096 cb] w fun r w' => r = .returned (.tuple #[.agg #[.slice a1 n1 c1, .slice a2 n2 c2, .int .i64 cnt, .bool (dn || (am == 0)), .int .i64 (opA dn am), .int .i64 (opA dn fl)], .int .i64 E]) ∧ Below w.heap.size w w' := by
  have B0 := ((Below.refl w.heap.size w).alloc (Nat.le_refl _) (.cells #[.slice a1 n1 c1, .slice a2 n2 c2, .int .i64 cnt, .bool dn, .int .i64 am, .int .i64 fl] 41)).alloc (by simp) (.cells #[.slice none 0 0, .slice none 0 0, .int .i64 0, .bool false, .int .i64 0, .int .i64 0] 41)
  have y0 := Box.new (w.alloc (.cells #[.slice a1 n1 c1, .slice a2 n2 c2, .int .i64 cnt, .bool dn, .int .i64 am, .int .i64 fl] 41)) #[.slice none 0 0, .slice none 0 0, .int .i64 0, .bool false, .int .i64 0, .int .i64 0] 41
  have sz : (w.alloc (.cells #[.slice a1 n1 c1, .slice a2 n2 c2, .int .i64 cnt, .bool dn, .int .i64 am, .int .i64 fl] 41)).heap.size = w.heap.size + 1 := by simp
  rw [sz] at y0
  clear sz
  have cO := rop_at a1 a2 n1 c1 n2 c2 cnt am fl dn ((w.alloc (.cells #[.slice a1 n1 c1, .slice a2 n2 c2, .int .i64 cnt, .bool dn, .int .i64 am, .int .i64 fl] 41)).alloc (.cells #[.slice none 0 0, .slice none 0 0, .int .i64 0, .bool false, .int .i64 0, .int .i64 0] 41)) h1 h2 h3 h4
  rw [hE] at cO
  obtain ⟨d', hd'⟩ : ∃ d', d' = (dn || (am == 0)) := ⟨_, rfl⟩
  obtain ⟨A, hA⟩ : ∃ A, A = opA dn am := ⟨_, rfl⟩
  obtain ⟨L, hL⟩ : ∃ L, L = opA dn fl := ⟨_, rfl⟩
  rw [← hd', ← hA, ← hL] at cO
  rw [← hd', ← hA, ← hL]
  clear hd' hA hL hE h1 h2 h3 h4
  go_enter Tryz.func43, Tryz.ntmps43
  go_wp2_with fail
  refine cO.mono ?_
  rintro r w1 ⟨rfl, b1⟩
  have y1 := y0.below b1
  have B1 := B0.trans (b1.mono B0.size)
  have y2 := y1.alloc (.cells #[.slice a1 n1 c1, .slice a2 n2 c2, .int .i64 cnt, .bool d', .int .i64 A, .int .i64 L] 41)
  have B2 := B1.alloc B1.size (.cells #[.slice a1 n1 c1, .slice a2 n2 c2, .int .i64 cnt, .bool d', .int .i64 A, .int .i64 L] 41)
  clear cO b1 y0 y1 B0 B1
  obtain ⟨q0, q1, q2, q3, q4, q5⟩ := y2.all6
  obtain ⟨g0, g1, g2, g3, g4, g5⟩ := y2.fr6
  go_wp2_with fail
  refine bodyPost_ret (hd := rfl) (hR := ⟨rfl, ?_⟩) (hr := ?_)
  · simp [results, Tryz.results43, go_sem, *]
  · repeat (refine Below.setCell ?_ (by simp) _)
    exact B2
/-- blocks of other kinds than the law's boxes stay -/
def O49 (a w : World) : Prop := ∀ i cur t, Box a i cur t → t ≠ 41 → Box w i cur t
theorem O49.refl (a : World) : O49 a a := fun _ _ _ h _ => h
theorem O49.set {a w : World} {g j : Nat} {v : Value} {cb : Array Value} (h : O49 a w) (hb : Box w g cb 41) : O49 a (w.setCell ⟨g, j, none⟩ v) := fun i cur t hi ht =>
  (heap_setCell_other w ⟨g, j, none⟩ i v (fun e => (h i cur t hi ht).ne hb ht e)).trans (h i cur t hi ht)
theorem RD.o49 {w w' : World} {Q : Nat → Prop} {ad aw : Option Addr} {ns cs nw cw : Nat} {D : DS} (h : RD w Q ad aw ns cs nw cw D) (o : O49 w w') : RD w' Q ad aw ns cs nw cw D :=
  h.move (fun i _ _ ⟨cur, t, hi, ht⟩ => (o i cur t hi ht).trans hi.symm) (fun _ _ h => h)
theorem Box.away {w : World} {g g' j : Nat} {cs : Array Value} {t : TypeId} {v : Value} (h : Box w g cs t) (hn : g ≠ g') : Box (w.setCell ⟨g', j, none⟩ v) g cs t := (heap_setCell_other w ⟨g', j, none⟩ g v hn).trans h
/-- a row of the same writes, made since -/
def WrRow (w2 w' : World) (Q : Nat → Prop) (n : Nat) (v : Value) (ws : List (Nat × List UInt8)) : Prop :=
  (∃ a c, v = .slice a n c) ∧ (∃ xs : List Value, w'.ownsRow w2.heap.size 57 2 v n xs ∧ xs.length = n * 2 ∧ ∀ j y, ws[j]? = some y → xs[j * 2]? = some (.int .i64 (y.1 : Int)) ∧ ∃ u, xs[j * 2 + 1]? = some u ∧ BlkAt w2 Q u y.2) ∧ Below w2.heap.size w2 w'
/-- one write more: the row behind both appends -/
theorem wr_more {w w' : World} {Q : Nat → Prop} {B n : Nat} {v : Value} {xs : List Value} {ws : List (Nat × List UInt8)} (k : Nat) (u : Value) (x : List UInt8) (hl : ws.length = n) (hxl : xs.length = n * 2)
    (hx : ∀ j y, ws[j]? = some y → xs[j * 2]? = some (.int .i64 (y.1 : Int)) ∧ ∃ u, xs[j * 2 + 1]? = some u ∧ BlkAt w Q u y.2) (hk : ∀ u y, BlkAt w Q u y → BlkAt w' Q u y) (hu : BlkAt w' Q u x)
    (h : w'.ownsRow B 57 2 v (n + 1) (xs ++ [.int .i64 (k : Int), u])) (hQ : ∀ i, B ≤ i → Q i) : ∃ g c, v = .slice (some ⟨g, 0, none⟩) (n + 1) c ∧ WrAt w' Q (some ⟨g, 0, none⟩) (n + 1) c (ws ++ [(k, x)]) := by
  refine WrAt.of_own h (by omega) (by simp [hl]) hQ fun j y hy => ?_
  by_cases hj : j < n
  · rw [List.getElem?_append_left (by omega)] at hy
    obtain ⟨h1, u', h2, h3⟩ := hx j y hy
    exact ⟨by rw [List.getElem?_append_left (by omega)]; exact h1, u', by rw [List.getElem?_append_left (by omega)]; exact h2, hk _ _ h3⟩
  · have hj' : j = n := by have := (List.getElem?_eq_some_iff.1 hy).1; simp at this; omega
    subst hj'
    rw [List.getElem?_append_right (by omega), hl, Nat.sub_self] at hy
    simp at hy
    subst hy
    exact ⟨by rw [List.getElem?_append_right (by omega), hxl, Nat.sub_self]; rfl, u, by rw [List.getElem?_append_right (by omega), hxl, Nat.add_sub_cancel_left]; rfl, hu⟩

set_option maxRecDepth 100000 in
set_option maxHeartbeats 4000000 in
theorem rwrite_good {w : World} {Q : Nat → Prop} {a1 a2 : Option Addr} {n1 c1 n2 c2 : Nat} {D : DS} (h : RD w Q a1 a2 n1 c1 n2 c2 D) (hQ : ∀ i, w.heap.size ≤ i → Q i) (hlim : n2 ≤ 1000000) (cnt am fl : Int) (dn : Bool) (hcnt : 0 ≤ cnt ∧ cnt ≤ 1000000) (n : Nat) (ab : Option Addr) (cb : Nat) (b : List UInt8) (hb : b.length = 4096) (hrb : Rd w ab b) (hn : (n : Int) < (n1 : Int)) (h1 : -1 ≤ am) (h2 : am ≤ 9223372036854775807) (h3 : -1 ≤ fl) (h4 : fl ≤ 9223372036854775807) (hE : opE dn am fl = 0) :
    Calls Tryz.prog 43 #[.agg #[.slice a1 n1 c1, .slice a2 n2 c2, .int .i64 cnt, .bool dn, .int .i64 am, .int .i64 fl], .int .i64 n, .slice ab 4096 cb] w fun r w' => ∃ g c, r = .returned (.tuple #[.agg #[.slice a1 n1 c1, .slice (some ⟨g, 0, none⟩) (n2 + 1) c, .int .i64 (cnt + 1), .bool (dn || (am == 0)), .int .i64 (opA dn am), .int .i64 (opA dn fl)], .int .i64 0]) ∧
      SafeAt w' Q a1 n1 c1 (safeOf D) ∧ WrAt w' Q (some ⟨g, 0, none⟩) (n2 + 1) c (D.uf ++ [(n, b)]) ∧ Below w.heap.size w w' := by
  have B0 := ((Below.refl w.heap.size w).alloc (Nat.le_refl _) (.cells #[.slice a1 n1 c1, .slice a2 n2 c2, .int .i64 cnt, .bool dn, .int .i64 am, .int .i64 fl] 41)).alloc (by simp) (.cells #[.slice none 0 0, .slice none 0 0, .int .i64 0, .bool false, .int .i64 0, .int .i64 0] 41)
  have x0 := (Box.new w #[.slice a1 n1 c1, .slice a2 n2 c2, .int .i64 cnt, .bool dn, .int .i64 am, .int .i64 fl] 41).alloc (.cells #[.slice none 0 0, .slice none 0 0, .int .i64 0, .bool false, .int .i64 0, .int .i64 0] 41)
  have y0 := Box.new (w.alloc (.cells #[.slice a1 n1 c1, .slice a2 n2 c2, .int .i64 cnt, .bool dn, .int .i64 am, .int .i64 fl] 41)) #[.slice none 0 0, .slice none 0 0, .int .i64 0, .bool false, .int .i64 0, .int .i64 0] 41
  have sz : (w.alloc (.cells #[.slice a1 n1 c1, .slice a2 n2 c2, .int .i64 cnt, .bool dn, .int .i64 am, .int .i64 fl] 41)).heap.size = w.heap.size + 1 := by simp
  rw [sz] at y0
  clear sz
  have cO := rop_at a1 a2 n1 c1 n2 c2 cnt am fl dn ((w.alloc (.cells #[.slice a1 n1 c1, .slice a2 n2 c2, .int .i64 cnt, .bool dn, .int .i64 am, .int .i64 fl] 41)).alloc (.cells #[.slice none 0 0, .slice none 0 0, .int .i64 0, .bool false, .int .i64 0, .int .i64 0] 41)) h1 h2 h3 h4
  rw [hE] at cO
  obtain ⟨d', hd'⟩ : ∃ d', d' = (dn || (am == 0)) := ⟨_, rfl⟩
  obtain ⟨A, hA⟩ : ∃ A, A = opA dn am := ⟨_, rfl⟩
  obtain ⟨L, hL⟩ : ∃ L, L = opA dn fl := ⟨_, rfl⟩
  rw [← hd', ← hA, ← hL] at cO
  rw [← hd', ← hA, ← hL]
  clear hd' hA hL hE h1 h2 h3 h4
  obtain ⟨i0, hi, hz0, hz1, hz2⟩ := info_parts infoW
  have hn1 : n1 ≤ 9223372036854775807 := by have := h.ns; have := h.ok.hi; omega
  have H : Hid (RD w Q a1 a2 n1 c1 n2 c2 D) := h
  have Hb : Hid _ := hb
  have Hrb : Hid (Rd w ab b) := hrb
  have HQ : Hid _ := hQ
  clear h hb hrb hQ
  go_enter Tryz.func43, Tryz.ntmps43
  go_wp2_with fail
  refine cO.mono ?_
  rintro r w1 ⟨rfl, b1⟩
  have B1 := B0.trans (b1.mono B0.size)
  have x2 := (x0.below b1).alloc (.cells #[.slice a1 n1 c1, .slice a2 n2 c2, .int .i64 cnt, .bool d', .int .i64 A, .int .i64 L] 41)
  have y2 := (y0.below b1).alloc (.cells #[.slice a1 n1 c1, .slice a2 n2 c2, .int .i64 cnt, .bool d', .int .i64 A, .int .i64 L] 41)
  have t2 := Box.new w1 #[.slice a1 n1 c1, .slice a2 n2 c2, .int .i64 cnt, .bool d', .int .i64 A, .int .i64 L] 41
  have B2 := B1.alloc B1.size (.cells #[.slice a1 n1 c1, .slice a2 n2 c2, .int .i64 cnt, .bool d', .int .i64 A, .int .i64 L] 41)
  have gT : w.heap.size + 1 < w1.heap.size := (y0.below b1).lt
  clear cO b1 y0 x0 B0 B1
  obtain ⟨gt, hgt⟩ : ∃ gt, gt = w1.heap.size := ⟨_, rfl⟩
  obtain ⟨w2, hw2⟩ : ∃ w2, w2 = w1.alloc (.cells #[.slice a1 n1 c1, .slice a2 n2 c2, .int .i64 cnt, .bool d', .int .i64 A, .int .i64 L] 41) := ⟨_, rfl⟩
  rw [← hw2] at x2 y2 t2 B2
  rw [← hgt] at t2 gT
  obtain ⟨p0, p1, p2, p3, p4, p5⟩ := x2.all6
  have R2 := RD.below H.out B2
  have W2 := R2.wr
  have nz := R2.nw
  -- the first append: a row of the same writes
  have hfirst : ∀ (ops : Array Oper) (rest : List Oper) (o : Oper) (ac : Act) (QQ : Exit → Act → World → Prop), o.guard = none → (s x : Operand) → o.op = .call { callee := .builtin .append, args := #[s, x], argTypes := #[26, 26] } → ac.eval s = .slice none 0 0 → ac.eval x = .slice a2 n2 c2 →
      (∀ v w', WrRow w2 w' Q n2 v D.uf → wpList Tryz.prog ops QQ rest (ac.put o.dst v) w') → wpList Tryz.prog ops QQ (o :: rest) ac w2 := by
    intro ops rest o ac QQ hg s x ho hs hx hK
    by_cases h0 : n2 = 0
    · obtain ⟨rfl, rfl⟩ := W2.2.2.2.1 h0
      subst h0
      exact wpList_append_own_none hg s x 26 ho w2.heap.size 57 i0 2 Tryz.underlying26 hi (.slice none 0 0) 0 [] hs (World.ownsRow_nil _ _ _ _) hx (hK _ _ ⟨⟨_, _, rfl⟩, ⟨[], World.ownsRow_nil _ _ _ _, rfl, fun j y hy => by
        have := (List.getElem?_eq_some_iff.1 hy).1
        omega⟩, Below.refl _ _⟩)
    · obtain ⟨g, o', rfl, news, hl, hc, h1c, hj⟩ := W2.cells (by omega)
      refine wpList_append_own _ hg s x 26 ho w2.heap.size 57 i0 (.agg #[.int .i64 0, .slice none 0 0]) 2 32 Tryz.underlying26 hi hz0 hz1 hz2 rfl (by decide) (.slice none 0 0) 0 [] hs (World.ownsRow_nil _ _ _ _) ⟨g, o', none⟩ n2 c2 news hx hl hc h1c (by unfold maxLen; omega) (by omega) (Nat.le_refl _) ?_
      intro v' w' ow gr _
      rw [Nat.zero_add, List.nil_append] at ow
      refine hK v' w' ⟨?_, ⟨news, ow, hl, hj⟩, ⟨gr.os, gr.tape, gr.output, gr.size, fun q hq => gr.block q hq (by simp [Value.ownBlock])⟩⟩
      rcases ow.2 with ⟨_, h⟩ | ⟨g', c', cur, hv, _⟩
      · exact absurd h h0
      · exact ⟨_, c', hv⟩
  have Hf : Hid _ := hfirst
  have Hw2 : Hid _ := hw2
  have Hgt : Hid _ := hgt
  have HR2 : Hid (RD w2 Q a1 a2 n1 c1 n2 c2 D) := R2
  clear hfirst hw2 hgt R2 W2 nz
  go_upto_region 9 with fail
  rw [← Hw2.out, ← Hgt.out]
  go_wp2_with (at_builtin; refine Hf.out _ _ _ _ _ rfl _ _ rfl rfl rfl ?_)
  rintro v3 w3 hrow3
  obtain ⟨⟨a3, c3, rfl⟩, ⟨xs, o3, hxl, hxs⟩, b3⟩ := hrow3
  have x3 := x2.below b3
  have y3 := y2.below b3
  have t3 := t2.below b3
  have B3 := B2.trans (b3.mono B2.size)
  have R3 : RD w3 Q a1 a2 n1 c1 n2 c2 D := RD.below HR2.out b3
  have z23 := b3.size
  have zw2 : w.heap.size ≤ w2.heap.size := B2.size
  have cC := copyBytes_at cb 4096 ab b w3 Hb.out (by omega) (Hrb.out.below B3 (Nat.le_refl _)) (by
    intro e
    obtain ⟨_, _, e', _⟩ := Hrb.out (by rw [Hb.out]; omega)
    rw [e'] at e
    cases e)
  have Hxs : Hid _ := hxs
  have Ho3 : Hid (w3.ownsRow w2.heap.size 57 2 (.slice a3 n2 c3) n2 xs) := o3
  have Hb3 : Hid _ := b3
  clear hxs o3 b3 p0 p1 p2 p3 p4 p5 x2 y2 t2 B2 HR2 Hf
  go_wp2_with fail
  refine cC.mono ?_
  rintro r w4 ⟨v4, rfl, o4, b4⟩
  clear cC
  obtain ⟨gd, cd, rfl, hgd, r4⟩ := RowB.owns o4 (by omega)
  have o34 := World.ownsRow.kept (row := none) Ho3.out ⟨b4.os, b4.tape, b4.output, b4.size, fun q hq _ => b4.block q hq⟩ (Classical.em _)
  have A5 := (Below.refl w4.heap.size w4).alloc (Nat.le_refl _) (.cells #[.int .i64 (n : Int), .slice (some ⟨gd, 0, none⟩) 4096 cd] 57)
  have l5 := Box.new w4 #[.int .i64 (n : Int), .slice (some ⟨gd, 0, none⟩) 4096 cd] 57
  obtain ⟨gn, hgn⟩ : ∃ gn, gn = w4.heap.size := ⟨_, rfl⟩
  obtain ⟨w5, hw5⟩ : ∃ w5, w5 = w4.alloc (.cells #[.int .i64 (n : Int), .slice (some ⟨gd, 0, none⟩) 4096 cd] 57) := ⟨_, rfl⟩
  rw [← hw5] at A5 l5
  rw [← hgn] at l5
  have b45 := b4.trans (A5.mono b4.size)
  have b35 : Below w2.heap.size w2 w5 := Hb3.out.trans (b45.mono Hb3.out.size)
  have o5 := World.ownsRow.kept (row := none) o34 ⟨A5.os, A5.tape, A5.output, A5.size, fun q hq _ => A5.block q hq⟩ (Classical.em _)
  have r5 := r4.same (A5.block gd r4.lt)
  have x5 := x3.below b45
  have y5 := y3.below b45
  have t5 := t3.below b45
  have B5 := B3.trans (b45.mono B3.size)
  have R5 := R3.below b45
  have z35 := b45.size
  have Hw5 : Hid _ := hw5
  have Hgn : Hid _ := hgn
  clear o4 o34 b4 r4 A5 hw5 hgn x3 y3 t3 B3 R3 b45
  go_wp2_with (rw [← Hgn.out, ← Hw5.out]; at_builtin; refine wpList_append_own _ rfl _ _ 26 rfl w2.heap.size 57 i0 (.agg #[.int .i64 0, .slice none 0 0]) 2 32 Tryz.underlying26 hi hz0 hz1 hz2 rfl (by decide) (.slice a3 n2 c3) n2 xs rfl o5 ⟨gn, 0, none⟩ 1 1 [.int .i64 (n : Int), .slice (some ⟨gd, 0, none⟩) 4096 cd] rfl rfl ?n1 ?n2 (by unfold maxLen; omega) (by omega) (by omega) ?_)
  case n1 =>
    intro j u hj
    match j, hj with
    | 0, hj => simp at hj; subst hj; rw [Addr.add_lit]; exact l5.cell 0
    | 1, hj => simp at hj; subst hj; rw [Addr.add_lit]; exact l5.cell 1
  case n2 =>
    intro u hu
    simp at hu
    rcases hu with rfl | rfl <;> rfl
  rintro v6 w6 o6 gr6 hiff
  clear hiff
  have b26 : Below w2.heap.size w2 w6 := b35.grown gr6 b35.size (fun q e => (World.ownsRow.lt o5 q e).1)
  have B6 : Below w.heap.size w w6 := B5.grown gr6 B5.size (fun q e => Nat.le_trans zw2 (World.ownsRow.lt o5 q e).1)
  have x6 : Box w6 w.heap.size _ 41 := (gr6.block _ x5.lt (owns_ne o5 x5 (by decide))).trans x5
  have y6 : Box w6 (w.heap.size + 1) _ 41 := (gr6.block _ y5.lt (owns_ne o5 y5 (by decide))).trans y5
  have t6 : Box w6 gt _ 41 := (gr6.block _ t5.lt (owns_ne o5 t5 (by decide))).trans t5
  have r6 : RowB w6 gd cd b := r5.same (gr6.block gd r5.lt (by obtain ⟨cur5, hb5, _⟩ := r5; exact owns_ne o5 hb5 (by decide)))
  have hu6 : BlkAt w6 Q (.slice (some ⟨gd, 0, none⟩) 4096 cd) b := BlkAt.of_row r6 Hb.out (HQ.out gd (by omega))
  obtain ⟨g6, c6, rfl, W6⟩ := wr_more n _ b (by have := RD.nw H.out; omega) hxl Hxs.out (fun u y h => h.move (fun i hi _ _ => b26.block i hi) (fun _ _ h => h)) hu6 o6 (fun i hi => HQ.out i (by omega))
  have R6 : RD w6 Q a1 (some ⟨g6, 0, none⟩) n1 c1 (n2 + 1) c6 { D with uf := D.uf ++ [(n, b)] } := by
    have R := RD.below H.out B6
    exact ⟨R.safe, W6, ⟨R.ok.len, R.ok.lo, R.ok.hi, fun p hp => by
      rcases List.mem_append.1 hp with h | h
      · exact R.ok.each p h
      · have : p = (n, b) := by simpa using h
        subst this
        exact ⟨by have := R.ns; show n < D.nb; omega, Hb.out⟩, R.ok.arm, R.ok.fail⟩⟩
  have HR6 : Hid _ := R6
  have HB6 : Hid _ := B6
  clear R6 B6 W6 hu6 r6 o6 gr6 b26 o5 b35 r5 l5 x5 y5 t5 B5 R5 Hxs Ho3 Hb3 Hw5 Hgn x6
  obtain ⟨p0, p1, p2, p3, p4, p5⟩ := t6.all6
  obtain ⟨f0, f1, f2, f3, f4, f5⟩ := t6.fr6
  obtain ⟨q0, q1, q2, q3, q4, q5⟩ := y6.all6
  obtain ⟨g0, g1, g2, g3, g4, g5⟩ := y6.fr6
  have hne : gt ≠ w.heap.size + 1 := by omega
  go_wp2_with fail
  have key : O49 w6 w6 := O49.refl _
  have t7 := t6.store 1 (.slice (some ⟨g6, 0, none⟩) (n2 + 1) c6)
  have k7 := key.set (j := 1) (v := .slice (some ⟨g6, 0, none⟩) (n2 + 1) c6) t6
  have y7 := y6.away (j := 1) (v := .slice (some ⟨g6, 0, none⟩) (n2 + 1) c6) (fun e => hne e.symm)
  have t8 := t7.store 2 (.int .i64 (cnt + 1))
  have k8 := k7.set (j := 2) (v := .int .i64 (cnt + 1)) t7
  have y8 := y7.away (j := 2) (v := .int .i64 (cnt + 1)) (fun e => hne e.symm)
  have k9 := (((((k8.set (j := 0) (v := .slice a1 n1 c1) y8).set (j := 1) (v := .slice (some ⟨g6, 0, none⟩) (n2 + 1) c6) (y8.store 0 _)).set (j := 2) (v := .int .i64 (cnt + 1)) ((y8.store 0 _).store 1 _)).set (j := 3) (v := .bool d') (((y8.store 0 _).store 1 _).store 2 _)).set (j := 4) (v := .int .i64 A) ((((y8.store 0 _).store 1 _).store 2 _).store 3 _)).set (j := 5) (v := .int .i64 L) (((((y8.store 0 _).store 1 _).store 2 _).store 3 _).store 4 _)
  refine bodyPost_ret (v := .tuple #[.agg #[.slice a1 n1 c1, .slice (some ⟨g6, 0, none⟩) (n2 + 1) c6, .int .i64 (cnt + 1), .bool d', .int .i64 A, .int .i64 L], .int .i64 0]) ?_ rfl ⟨g6, c6, rfl, (RD.o49 HR6.out k9).safe, (RD.o49 HR6.out k9).wr, ?_⟩
  · simp [results, Tryz.results43, go_sem, q0, q1, q2, q3, q4, q5]
  · repeat (refine Below.setCell ?_ (by first | (simp; done) | (dsimp only; omega)) _)
    exact HB6.out
end Go.Proofs.YtdkaacjeogifdaaGreat.Dk

/-
  The document's disk: Flush.
-/
namespace Go.Proofs.YtdkaacjeogifdaaGreat.Dk
open Go.RowKit

theorem BlkAt.move5 {w w' : World} {Q : Nat → Prop} {v : Value} {xs : List UInt8} (h : BlkAt w Q v xs) (hk : ∀ i cur, Box w i cur 5 → w'.heap[i]? = w.heap[i]?) : BlkAt w' Q v xs := by
  obtain ⟨p, o, c, hv, h1, h2, hq, ⟨cur, hb⟩, hl, hc⟩ := h
  have e := hk p cur hb
  exact ⟨p, o, c, hv, h1, h2, hq, ⟨cur, e.trans hb⟩, hl, fun j hj => (World.cell?_of_block (a := ⟨p, o + j, none⟩) e).trans (hc j hj)⟩

set_option maxRecDepth 100000 in
set_option maxHeartbeats 2000000 in
theorem rflush_stop (a1 a2 : Option Addr) (n1 c1 n2 c2 : Nat) (cnt am fl : Int) (dn : Bool) (E : Int) (w : World) (h1 : -1 ≤ am) (h2 : am ≤ 9223372036854775807) (h3 : -1 ≤ fl) (h4 : fl ≤ 9223372036854775807) (hE : opE dn am fl = E) (h0 : E ≠ 0) :
    Calls Tryz.prog 44 #[.agg #[.slice a1 n1 c1, .slice a2 n2 c2, .int .i64 cnt, .bool dn, .int .i64 am, .int .i64 fl]] w fun r w' => r = .returned (.tuple #[.agg #[.slice a1 n1 c1, .slice a2 n2 c2, .int .i64 cnt, .bool (dn || (am == 0)), .int .i64 (opA dn am), .int .i64 (opA dn fl)], .int .i64 E]) ∧ Below w.heap.size w w' := by
  have B0 := ((Below.refl w.heap.size w).alloc (Nat.le_refl _) (.cells #[.slice a1 n1 c1, .slice a2 n2 c2, .int .i64 cnt, .bool dn, .int .i64 am, .int .i64 fl] 41)).alloc (by simp) (.cells #[.slice none 0 0, .slice none 0 0, .int .i64 0, .bool false, .int .i64 0, .int .i64 0] 41)
  have y0 := Box.new (w.alloc (.cells #[.slice a1 n1 c1, .slice a2 n2 c2, .int .i64 cnt, .bool dn, .int .i64 am, .int .i64 fl] 41)) #[.slice none 0 0, .slice none 0 0, .int .i64 0, .bool false, .int .i64 0, .int .i64 0] 41
  have sz : (w.alloc (.cells #[.slice a1 n1 c1, .slice a2 n2 c2, .int .i64 cnt, .bool dn, .int .i64 am, .int .i64 fl] 41)).heap.size = w.heap.size + 1 := by simp
  rw [sz] at y0
  clear sz
  have cO := rop_at a1 a2 n1 c1 n2 c2 cnt am fl dn ((w.alloc (.cells #[.slice a1 n1 c1, .slice a2 n2 c2, .int .i64 cnt, .bool dn, .int .i64 am, .int .i64 fl] 41)).alloc (.cells #[.slice none 0 0, .slice none 0 0, .int .i64 0, .bool false, .int .i64 0, .int .i64 0] 41)) h1 h2 h3 h4
  rw [hE] at cO
  obtain ⟨d', hd'⟩ : ∃ d', d' = (dn || (am == 0)) := ⟨_, rfl⟩
  obtain ⟨A, hA⟩ : ∃ A, A = opA dn am := ⟨_, rfl⟩
  obtain ⟨L, hL⟩ : ∃ L, L = opA dn fl := ⟨_, rfl⟩
  rw [← hd', ← hA, ← hL] at cO
  rw [← hd', ← hA, ← hL]
  clear hd' hA hL hE h1 h2 h3 h4
  go_enter Tryz.func44, Tryz.ntmps44
  go_wp2_with fail
  refine cO.mono ?_
  rintro r w1 ⟨rfl, b1⟩
  have y1 := y0.below b1
  have B1 := B0.trans (b1.mono B0.size)
  have y2 := y1.alloc (.cells #[.slice a1 n1 c1, .slice a2 n2 c2, .int .i64 cnt, .bool d', .int .i64 A, .int .i64 L] 41)
  have B2 := B1.alloc B1.size (.cells #[.slice a1 n1 c1, .slice a2 n2 c2, .int .i64 cnt, .bool d', .int .i64 A, .int .i64 L] 41)
  clear cO b1 y0 y1 B0 B1
  obtain ⟨q0, q1, q2, q3, q4, q5⟩ := y2.all6
  obtain ⟨g0, g1, g2, g3, g4, g5⟩ := y2.fr6
  go_wp2_with fail
  refine bodyPost_ret (hd := rfl) (hR := ⟨rfl, ?_⟩) (hr := ?_)
  · simp [results, Tryz.results44, go_sem, *]
  · repeat (refine Below.setCell ?_ (by simp) _)
    exact B2

def standsOf (D : DS) : List (List UInt8) := (List.range D.nb).map D.stand
theorem standsOf_get (D : DS) (k : Nat) (h : k < D.nb) : (standsOf D)[k]? = some (D.stand k) := by simp [standsOf, h]
theorem standsOf_length (D : DS) : (standsOf D).length = D.nb := by simp [standsOf]

set_option maxRecDepth 100000 in
set_option maxHeartbeats 4000000 in
theorem rflush_good {w : World} {Q : Nat → Prop} {a1 a2 : Option Addr} {n1 c1 n2 c2 : Nat} {D : DS} (h : RD w Q a1 a2 n1 c1 n2 c2 D) (hQ : ∀ i, w.heap.size ≤ i → Q i) (cnt am fl : Int) (dn : Bool) (h1 : -1 ≤ am) (h2 : am ≤ 9223372036854775807) (h3 : -1 ≤ fl) (h4 : fl ≤ 9223372036854775807) (hE : opE dn am fl = 0) :
    Calls Tryz.prog 44 #[.agg #[.slice a1 n1 c1, .slice a2 n2 c2, .int .i64 cnt, .bool dn, .int .i64 am, .int .i64 fl]] w fun r w' => ∃ g c, r = .returned (.tuple #[.agg #[.slice (some ⟨g, 0, none⟩) n1 c, .slice none 0 0, .int .i64 cnt, .bool (dn || (am == 0)), .int .i64 (opA dn am), .int .i64 (opA dn fl)], .int .i64 0]) ∧
      SafeAt w' Q (some ⟨g, 0, none⟩) n1 c (standsOf D) ∧ Below w.heap.size w w' := by
  have B0 := ((Below.refl w.heap.size w).alloc (Nat.le_refl _) (.cells #[.slice a1 n1 c1, .slice a2 n2 c2, .int .i64 cnt, .bool dn, .int .i64 am, .int .i64 fl] 41)).alloc (by simp) (.cells #[.slice none 0 0, .slice none 0 0, .int .i64 0, .bool false, .int .i64 0, .int .i64 0] 41)
  have x0 := (Box.new w #[.slice a1 n1 c1, .slice a2 n2 c2, .int .i64 cnt, .bool dn, .int .i64 am, .int .i64 fl] 41).alloc (.cells #[.slice none 0 0, .slice none 0 0, .int .i64 0, .bool false, .int .i64 0, .int .i64 0] 41)
  have y0 := Box.new (w.alloc (.cells #[.slice a1 n1 c1, .slice a2 n2 c2, .int .i64 cnt, .bool dn, .int .i64 am, .int .i64 fl] 41)) #[.slice none 0 0, .slice none 0 0, .int .i64 0, .bool false, .int .i64 0, .int .i64 0] 41
  have sz : (w.alloc (.cells #[.slice a1 n1 c1, .slice a2 n2 c2, .int .i64 cnt, .bool dn, .int .i64 am, .int .i64 fl] 41)).heap.size = w.heap.size + 1 := by simp
  rw [sz] at y0
  clear sz
  have cO := rop_at a1 a2 n1 c1 n2 c2 cnt am fl dn ((w.alloc (.cells #[.slice a1 n1 c1, .slice a2 n2 c2, .int .i64 cnt, .bool dn, .int .i64 am, .int .i64 fl] 41)).alloc (.cells #[.slice none 0 0, .slice none 0 0, .int .i64 0, .bool false, .int .i64 0, .int .i64 0] 41)) h1 h2 h3 h4
  rw [hE] at cO
  obtain ⟨d', hd'⟩ : ∃ d', d' = (dn || (am == 0)) := ⟨_, rfl⟩
  obtain ⟨A, hA⟩ : ∃ A, A = opA dn am := ⟨_, rfl⟩
  obtain ⟨L, hL⟩ : ∃ L, L = opA dn fl := ⟨_, rfl⟩
  rw [← hd', ← hA, ← hL] at cO
  rw [← hd', ← hA, ← hL]
  clear hd' hA hL hE h1 h2 h3 h4
  obtain ⟨i0, hi, hz0, hz1, hz2⟩ := info_parts info27'
  have hn1 : 1 ≤ n1 ∧ n1 ≤ 512 := by have := h.ns; have := h.ok.hi; have := h.ok.lo; omega
  have H : Hid (RD w Q a1 a2 n1 c1 n2 c2 D) := h
  have HQ : Hid _ := hQ
  have He : Hid _ := h.ns
  clear h hQ
  go_enter Tryz.func44, Tryz.ntmps44
  go_wp2_with fail
  refine cO.mono ?_
  rintro r w1 ⟨rfl, b1⟩
  have B1 := B0.trans (b1.mono B0.size)
  have x2 := (x0.below b1).alloc (.cells #[.slice a1 n1 c1, .slice a2 n2 c2, .int .i64 cnt, .bool d', .int .i64 A, .int .i64 L] 41)
  have y2 := (y0.below b1).alloc (.cells #[.slice a1 n1 c1, .slice a2 n2 c2, .int .i64 cnt, .bool d', .int .i64 A, .int .i64 L] 41)
  have t2 := Box.new w1 #[.slice a1 n1 c1, .slice a2 n2 c2, .int .i64 cnt, .bool d', .int .i64 A, .int .i64 L] 41
  have B2 := B1.alloc B1.size (.cells #[.slice a1 n1 c1, .slice a2 n2 c2, .int .i64 cnt, .bool d', .int .i64 A, .int .i64 L] 41)
  have gT : w.heap.size + 1 < w1.heap.size := (y0.below b1).lt
  clear cO b1 y0 x0 B0 B1
  obtain ⟨gt, hgt⟩ : ∃ gt, gt = w1.heap.size := ⟨_, rfl⟩
  obtain ⟨w2, hw2⟩ : ∃ w2, w2 = w1.alloc (.cells #[.slice a1 n1 c1, .slice a2 n2 c2, .int .i64 cnt, .bool d', .int .i64 A, .int .i64 L] 41) := ⟨_, rfl⟩
  rw [← hw2] at x2 y2 t2 B2
  rw [← hgt] at t2 gT
  have Hw2 : Hid _ := hw2
  have Hgt : Hid _ := hgt
  clear hw2 hgt
  have zw2 : w.heap.size ≤ w2.heap.size := B2.size
  go_wp2_with fail
  rw [← Hw2.out, ← Hgt.out]
  go_loopw [6, 7] (fun v i wr => ∃ (k : Nat) (a : Option Addr) (c : Nat) (xs : List Value), k ≤ n1 ∧ v = .slice a k c ∧ i = .int .i64 k ∧ wr.ownsRow w.heap.size 22 1 v k xs ∧ xs.length = k ∧ (∀ (j : Nat) (x : List UInt8), j < k → (standsOf D)[j]? = some x → ∃ u, xs[j]? = some u ∧ BlkAt wr Q u x) ∧ Box wr w.heap.size #[.slice a1 n1 c1, .slice a2 n2 c2, .int .i64 cnt, .bool dn, .int .i64 am, .int .i64 fl] 41 ∧ Box wr (w.heap.size + 1) #[.slice none 0 0, .slice none 0 0, .int .i64 0, .bool false, .int .i64 0, .int .i64 0] 41 ∧ Box wr gt #[.slice a1 n1 c1, .slice a2 n2 c2, .int .i64 cnt, .bool d', .int .i64 A, .int .i64 L] 41 ∧ Below w.heap.size w wr) (fun _ i _ => n1 - (intOf i).toNat)
  case atStart => exact ⟨0, none, 0, [], by omega, rfl, rfl, World.ownsRow_nil _ _ _ _, rfl, fun j x hj => by omega, x2, y2, t2, B2⟩
  case round =>
    clear x2 y2 t2 B2
    obtain ⟨k, a, c, xs, hk, rfl, rfl, ho, hxl, hxs, x, y, t, B⟩ := hrel
    obtain ⟨p0, p1, p2, p3, p4, p5⟩ := x.all6
    by_cases hlt : k < n1
    · have hlt2 : (k : Int) < (n1 : Int) := by omega
      have hkD : k < D.nb := by rw [← He.out]; exact hlt
      have cA := rat_at (RD.below H.out B) cnt am fl dn k hkD
      have Ho : Hid (wr.ownsRow w.heap.size 22 1 (.slice a k c) k xs) := ho
      have Hxs : Hid _ := hxs
      have Hx : Hid _ := x
      have Hy : Hid _ := y
      have Ht : Hid _ := t
      have HB : Hid _ := B
      clear ho hxs x y t B
      go_wp2_with fail
      refine cA.mono ?_
      rintro r w3 ⟨p, o, c', rfl, hb, b3⟩
      clear cA p0 p1 p2 p3 p4 p5
      have A4 := (Below.refl w3.heap.size w3).alloc (Nat.le_refl _) (.cells #[.slice (some ⟨p, o, none⟩) 4096 c'] 22)
      have l4 := Box.new w3 #[.slice (some ⟨p, o, none⟩) 4096 c'] 22
      obtain ⟨gn, hgn⟩ : ∃ gn, gn = w3.heap.size := ⟨_, rfl⟩
      obtain ⟨w4, hw4⟩ : ∃ w4, w4 = w3.alloc (.cells #[.slice (some ⟨p, o, none⟩) 4096 c'] 22) := ⟨_, rfl⟩
      rw [← hw4] at A4 l4
      rw [← hgn] at l4
      have b34 := b3.trans (A4.mono b3.size)
      have o4 := World.ownsRow.kept (row := none) Ho.out ⟨b34.os, b34.tape, b34.output, b34.size, fun q hq _ => b34.block q hq⟩ (Classical.em _)
      have x4 := Box.below Hx.out b34
      have y4 := Box.below Hy.out b34
      have t4 := Box.below Ht.out b34
      have B4 := HB.out.trans (b34.mono HB.out.size)
      have hb4 : BlkAt w4 Q (.slice (some ⟨p, o, none⟩) 4096 c') (D.stand k) := hb.move (fun i hi _ _ => A4.block i hi) (fun _ _ h => h)
      have Hw4 : Hid _ := hw4
      have Hgn : Hid _ := hgn
      have Hb34 : Hid _ := b34
      clear b3 b34 A4 hb hw4 hgn Ho Hx Hy Ht HB
      go_wp2_with (rw [← Hgn.out, ← Hw4.out]; at_builtin; refine wpList_append_own _ rfl _ _ 39 rfl w.heap.size 22 i0 (.slice none 0 0) 1 24 Tryz.underlying39 hi hz0 hz1 hz2 rfl (by decide) (.slice a k c) k xs rfl o4 ⟨gn, 0, none⟩ 1 1 [.slice (some ⟨p, o, none⟩) 4096 c'] rfl rfl ?n1 ?n2 (by unfold maxLen; omega) (by omega) B4.size ?_)
      case n1 =>
        intro j u hj
        match j, hj with
        | 0, hj => simp at hj; subst hj; rw [Addr.add_lit]; exact l4.cell 0
      case n2 =>
        intro u hu
        simp at hu
        subst hu
        rfl
      rintro v5 w5 o5 gr5 hiff
      clear hiff
      obtain ⟨a5, c5, rfl⟩ : ∃ a c, v5 = .slice a (k + 1) c := by
        rcases o5.2 with ⟨_, h⟩ | ⟨g', c', cur, hv, _⟩
        · omega
        · exact ⟨_, c', hv⟩
      have x5 : Box w5 w.heap.size _ 41 := (gr5.block _ x4.lt (owns_ne o4 x4 (by decide))).trans x4
      have y5 : Box w5 (w.heap.size + 1) _ 41 := (gr5.block _ y4.lt (owns_ne o4 y4 (by decide))).trans y4
      have t5 : Box w5 gt _ 41 := (gr5.block _ t4.lt (owns_ne o4 t4 (by decide))).trans t4
      have B5 : Below w.heap.size w w5 := B4.grown gr5 B4.size (fun q e => (World.ownsRow.lt o4 q e).1)
      have mv : ∀ u y, BlkAt w4 Q u y → BlkAt w5 Q u y := fun u y h => h.move5 (fun i cur hi => gr5.block i hi.lt (owns_ne o4 hi (by decide)))
      have hxs5 : ∀ (j : Nat) (x : List UInt8), j < k + 1 → (standsOf D)[j]? = some x → ∃ u, (xs ++ [.slice (some ⟨p, o, none⟩) 4096 c'])[j]? = some u ∧ BlkAt w5 Q u x := by
        intro j x hj hx
        by_cases hjk : j < k
        · obtain ⟨u, h1, h2⟩ := Hxs.out j x hjk hx
          exact ⟨u, by rw [List.getElem?_append_left (by omega)]; exact h1, mv _ _ (h2.move (fun i hi _ _ => Hb34.out.block i hi) (fun _ _ h => h))⟩
        · have hje : j = k := by omega
          subst hje
          rw [standsOf_get D j hkD] at hx
          cases hx
          exact ⟨_, by rw [List.getElem?_append_right (by omega), hxl, Nat.sub_self]; rfl, mv _ _ hb4⟩
      have Ho5 : Hid (w5.ownsRow w.heap.size 22 1 (.slice a5 (k + 1) c5) (k + 1) (xs ++ [.slice (some ⟨p, o, none⟩) 4096 c'])) := o5
      have Hxs5 : Hid _ := hxs5
      clear o5 hxs5 mv gr5 o4 x4 y4 t4 B4 hb4 l4 Hxs Hb34 Hw4 Hgn
      go_wp2_with fail
      go_roundw
      case rel => exact ⟨k + 1, a5, c5, _, by omega, rfl, by go_num, Ho5.out, by simp [hxl], Hxs5.out, x5, y5, t5, B5⟩
      case measure => simp [intOf]; omega
    · have hkn : k = n1 := by omega
      rw [hkn] at ho hxs
      rw [hkn]
      obtain ⟨g6, c6, e6, S6⟩ := SafeAt.of_own ho (by omega) (by rw [standsOf_length, He.out]) (fun i hi => HQ.out i hi) (fun j x hx => hxs j x (by have := (List.getElem?_eq_some_iff.1 hx).1; rw [standsOf_length, ← He.out] at this; exact this) hx)
      cases e6
      clear hkn hxl
      have HS6 : Hid _ := S6
      have HB6 : Hid _ := B
      clear S6 B ho hxs x p1 p2 p3 p4 p5
      obtain ⟨e0, e1, e2, e3, e4, e5⟩ := t.all6
      obtain ⟨f0, f1, f2, f3, f4, f5⟩ := t.fr6
      obtain ⟨q0, q1, q2, q3, q4, q5⟩ := y.all6
      obtain ⟨g0, g1, g2, g3, g4, g5⟩ := y.fr6
      have hne : gt ≠ w.heap.size + 1 := by omega
      go_wp2_with fail
      have key : O49 wr wr := O49.refl _
      have t7 := t.store 0 (.slice (some ⟨g6, 0, none⟩) n1 c)
      have k7 := key.set (j := 0) (v := .slice (some ⟨g6, 0, none⟩) n1 c) t
      have y7 := y.away (j := 0) (v := .slice (some ⟨g6, 0, none⟩) n1 c) (fun e => hne e.symm)
      have k8 := k7.set (j := 1) (v := .slice none 0 0) t7
      have y8 := y7.away (j := 1) (v := .slice none 0 0) (fun e => hne e.symm)
      have k9 := (((((k8.set (j := 0) (v := .slice (some ⟨g6, 0, none⟩) n1 c) y8).set (j := 1) (v := .slice none 0 0) (y8.store 0 _)).set (j := 2) (v := .int .i64 cnt) ((y8.store 0 _).store 1 _)).set (j := 3) (v := .bool d') (((y8.store 0 _).store 1 _).store 2 _)).set (j := 4) (v := .int .i64 A) ((((y8.store 0 _).store 1 _).store 2 _).store 3 _)).set (j := 5) (v := .int .i64 L) (((((y8.store 0 _).store 1 _).store 2 _).store 3 _).store 4 _)
      refine bodyPost_ret (v := .tuple #[.agg #[.slice (some ⟨g6, 0, none⟩) n1 c, .slice none 0 0, .int .i64 cnt, .bool d', .int .i64 A, .int .i64 L], .int .i64 0]) ?_ rfl ⟨g6, c, rfl, SafeAt.move HS6.out (fun i _ _ ⟨cur, t, hi, ht⟩ => (k9 i cur t hi ht).trans hi.symm) (fun _ _ h => h), ?_⟩
      · simp [results, Tryz.results44, go_sem, q0, q1, q2, q3, q4, q5]
      · repeat (refine Below.setCell ?_ (by first | (simp; done) | (dsimp only; omega)) _)
        exact HB6.out
end Go.Proofs.YtdkaacjeogifdaaGreat.Dk

/-
  The document's Write and Flush of a disk, whatever comes of them.
-/
namespace Go.Proofs.YtdkaacjeogifdaaGreat.Dk
open Go.RowKit

/-- the document's disk as a value -/
def refA (a1 a2 : Option Addr) (n1 c1 n2 c2 : Nat) (D : DS) : Array Value := #[.slice a1 n1 c1, .slice a2 n2 c2, .int .i64 (D.n : Int), .bool D.gone, .int .i64 (fuseI D.arm), .int .i64 (fuseI D.fail)]
theorem refA_oper (a1 a2 : Option Addr) (n1 c1 n2 c2 : Nat) (D : DS) : #[.slice a1 n1 c1, .slice a2 n2 c2, .int .i64 (D.n : Int), .bool (D.gone || (fuseI D.arm == 0)), .int .i64 (opA D.gone (fuseI D.arm)), .int .i64 (opA D.gone (fuseI D.fail))] = refA a1 a2 n1 c1 n2 c2 D.oper := by
  unfold refA
  rw [opD_D, opA_D, opA_D, oper_arm, oper_fail]
  have : D.oper.n = D.n := by unfold DS.oper; split <;> rfl
  rw [this]
theorem RD.oper {w : World} {Q : Nat → Prop} {a1 a2 : Option Addr} {n1 c1 n2 c2 : Nat} {D : DS} (h : RD w Q a1 a2 n1 c1 n2 c2 D) : RD w Q a1 a2 n1 c1 n2 c2 D.oper := by
  have e1 : D.oper.dur = D.dur := by unfold DS.oper; split <;> rfl
  have e2 : D.oper.uf = D.uf := by unfold DS.oper; split <;> rfl
  have e3 : D.oper.nb = D.nb := by unfold DS.oper; split <;> rfl
  have e4 : safeOf D.oper = safeOf D := by unfold safeOf; rw [e1, e3]
  have t : ∀ f : Fuse, f.left < 9223372036854775808 → f.then.left < 9223372036854775808 := fun f hf => by
    unfold Fuse.then
    split
    · split
      · show f.left - 1 < _; omega
      · show 0 < _; omega
    · exact hf
  exact ⟨by rw [e4]; exact h.safe, by rw [e2]; exact h.wr, ⟨by rw [e1, e3]; exact h.ok.len, by rw [e3]; exact h.ok.lo, by rw [e3]; exact h.ok.hi, by rw [e2, e3]; exact h.ok.each, by rw [oper_arm]; split; exact h.ok.arm; exact t _ h.ok.arm, by rw [oper_fail]; split; exact h.ok.fail; exact t _ h.ok.fail⟩⟩

theorem rflushD {w : World} {Q : Nat → Prop} {a1 a2 : Option Addr} {n1 c1 n2 c2 : Nat} {D : DS} (h : RD w Q a1 a2 n1 c1 n2 c2 D) (hQ : ∀ i, w.heap.size ≤ i → Q i) :
    Calls Tryz.prog 44 #[.agg (refA a1 a2 n1 c1 n2 c2 D)] w fun r w' => ∃ a1' a2' c1' n2' c2', r = .returned (.tuple #[.agg (refA a1' a2' n1 c1' n2' c2' D.flush), .int .i64 (D.operE : Int)]) ∧ RD w' Q a1' a2' n1 c1' n2' c2' D.flush ∧ Below w.heap.size w w' := by
  have l1 := fuseI_lo D.arm
  have l2 := fuseI_lo D.fail
  have l3 := fuseI_hi D.arm h.ok.arm
  have l4 := fuseI_hi D.fail h.ok.fail
  have hE := opE_D D
  by_cases h0 : D.operE = 0
  · rw [h0] at hE
    refine (rflush_good h hQ D.n (fuseI D.arm) (fuseI D.fail) D.gone l1 l3 l2 l4 hE).mono ?_
    rintro r w' ⟨g, c, rfl, hs, b⟩
    have hf : D.flush = { D.oper with dur := D.image, uf := [] } := by unfold DS.flush; rw [if_pos h0]
    have ho := h.oper.ok
    have e1 : D.oper.dur = D.dur := by unfold DS.oper; split <;> rfl
    have e3 : D.oper.nb = D.nb := by unfold DS.oper; split <;> rfl
    have es : safeOf D.flush = standsOf D := by
      rw [hf]
      unfold safeOf standsOf
      show (List.range D.oper.nb).map (blk D.image) = _
      rw [e3]
      refine List.map_congr_left fun k hk => stand_blk D h.ok k (by simpa using hk)
    refine ⟨_, none, c, 0, 0, ?_, ⟨by rw [es]; exact hs, by rw [hf]; exact ⟨rfl, Nat.le_refl _, by unfold maxLen; omega, fun _ => ⟨rfl, rfl⟩, fun h => by omega⟩, ?_⟩, b⟩
    · have e := refA_oper (some ⟨g, 0, none⟩) none n1 c 0 0 D
      rw [h0, hf]
      show _ = Ending.returned (Value.tuple #[.agg (refA (some ⟨g, 0, none⟩) none n1 c 0 0 D.oper), .int .i64 0])
      rw [← e]
    · rw [hf]
      exact ⟨by show D.image.length = D.oper.nb * 4096; rw [e3]; exact image_len D h.ok, ho.lo, ho.hi, fun p hp => (by cases hp), ho.arm, ho.fail⟩
  · refine (rflush_stop a1 a2 n1 c1 n2 c2 D.n (fuseI D.arm) (fuseI D.fail) D.gone (D.operE : Int) w l1 l3 l2 l4 hE (by omega)).mono ?_
    rintro r w' ⟨rfl, b⟩
    have hf : D.flush = D.oper := by unfold DS.flush; rw [if_neg h0]
    rw [hf]
    exact ⟨a1, a2, c1, n2, c2, by rw [refA_oper], (h.below b).oper, b⟩

theorem rwriteD {w : World} {Q : Nat → Prop} {a1 a2 : Option Addr} {n1 c1 n2 c2 : Nat} {D : DS} (h : RD w Q a1 a2 n1 c1 n2 c2 D) (hQ : ∀ i, w.heap.size ≤ i → Q i) (hlim : D.uf.length ≤ 1000000) (hcnt : D.n ≤ 1000000) (n : Int) (ab : Option Addr) (nb cb : Nat) (b : List UInt8) (hb : b.length = nb) (hnb : nb ≤ 9223372036854775807) (hrb : Rd w ab b) :
    Calls Tryz.prog 43 #[.agg (refA a1 a2 n1 c1 n2 c2 D), .int .i64 n, .slice ab nb cb] w fun r w' => ∃ a2' n2' c2', r = .returned (.tuple #[.agg (refA a1 a2' n1 c1 n2' c2' (D.write n b)), .int .i64 (D.writeE n b : Int)]) ∧ RD w' Q a1 a2' n1 c1 n2' c2' (D.write n b) ∧ Below w.heap.size w w' := by
  have l1 := fuseI_lo D.arm
  have l2 := fuseI_lo D.fail
  have l3 := fuseI_hi D.arm h.ok.arm
  have l4 := fuseI_hi D.fail h.ok.fail
  have hE := opE_D D
  have ens := h.ns
  have enw := h.nw
  have hhi := h.ok.hi
  by_cases hn : 0 ≤ n ∧ n < D.nb
  · have hhas : D.has n = true := by unfold DS.has; simp [hn.1, hn.2]
    by_cases h4 : b.length = 4096
    · obtain ⟨k, rfl⟩ : ∃ k : Nat, n = k := ⟨n.toNat, by omega⟩
      have hw : D.writeE (k : Int) b = D.operE := by unfold DS.writeE; rw [hhas, if_pos rfl, if_pos h4]
      have hb' : nb = 4096 := by omega
      subst hb'
      by_cases h0 : D.operE = 0
      · rw [h0] at hE
        have hd : D.write (k : Int) b = { D.oper with uf := D.uf ++ [(k, b)], n := D.n + 1 } := by unfold DS.write; rw [hhas, decide_eq_true h4, Bool.and_self, if_pos rfl, if_pos h0]; rfl
        refine (rwrite_good h hQ (by omega) D.n (fuseI D.arm) (fuseI D.fail) D.gone ⟨by omega, by omega⟩ k ab cb b h4 hrb (by omega) l1 l3 l2 l4 hE).mono ?_
        rintro r w' ⟨g, c, rfl, hs, hw', bl⟩
        have ho := h.oper.ok
        have e1 : D.oper.dur = D.dur := by unfold DS.oper; split <;> rfl
        have e2 : D.oper.uf = D.uf := by unfold DS.oper; split <;> rfl
        have e3 : D.oper.nb = D.nb := by unfold DS.oper; split <;> rfl
        refine ⟨_, n2 + 1, c, ?_, ⟨?_, by rw [hd]; exact hw', ?_⟩, bl⟩
        · rw [hw, h0, hd]
          unfold refA
          simp only [opD_D, opA_D, oper_arm, oper_fail]
          rfl
        · rw [hd]
          have : safeOf ({ D.oper with uf := D.uf ++ [(k, b)], n := D.n + 1 } : DS) = safeOf D := by
            unfold safeOf
            show (List.range D.oper.nb).map (blk D.oper.dur) = _
            rw [e1, e3]
          rw [this]
          exact hs
        · rw [hd]
          refine ⟨ho.len, ho.lo, ho.hi, fun p hp => ?_, ho.arm, ho.fail⟩
          show p.1 < D.oper.nb ∧ _
          rw [e3]
          rcases List.mem_append.1 hp with q | q
          · exact h.ok.each p q
          · have : p = (k, b) := by simpa using q
            subst this
            exact ⟨by have := hn.2; show k < D.nb; omega, h4⟩
      · have hd : D.write (k : Int) b = D.oper := by unfold DS.write; rw [hhas, decide_eq_true h4, Bool.and_self, if_pos rfl, if_neg h0]
        refine (rwrite_stop a1 a2 n1 c1 n2 c2 D.n (fuseI D.arm) (fuseI D.fail) D.gone k ab cb (D.operE : Int) w (by omega) (by omega) l1 l3 l2 l4 hE (by omega)).mono ?_
        rintro r w' ⟨rfl, bl⟩
        rw [hd, hw]
        exact ⟨a2, n2, c2, by rw [refA_oper], (h.below bl).oper, bl⟩
    · have hd : D.write n b = D := by unfold DS.write; rw [hhas, decide_eq_false h4]; rfl
      have hw : D.writeE n b = 2 := by unfold DS.writeE; rw [hhas, if_pos rfl, if_neg h4]
      refine (rwrite_no a1 a2 n1 c1 n2 c2 D.n (fuseI D.arm) (fuseI D.fail) D.gone n ab nb cb 2 w (by omega) hnb (.inr (.inr ⟨hn.1, by omega, by omega, rfl⟩))).mono ?_
      rintro r w' ⟨rfl, bl⟩
      rw [hd, hw]
      exact ⟨a2, n2, c2, rfl, h.below bl, bl⟩
  · have hhas : D.has n = false := by
      unfold DS.has
      by_cases q : 0 ≤ n
      · have : ¬ n < D.nb := fun q' => hn ⟨q, q'⟩
        simp [this]
      · simp [q]
    have hd : D.write n b = D := by unfold DS.write; rw [hhas]; rfl
    have hw : D.writeE n b = 70 := by unfold DS.writeE; rw [hhas]; rfl
    refine (rwrite_no a1 a2 n1 c1 n2 c2 D.n (fuseI D.arm) (fuseI D.fail) D.gone n ab nb cb 70 w (by omega) hnb (by
      by_cases q : n < 0
      · exact .inl ⟨q, rfl⟩
      · exact .inr (.inl ⟨by omega, by omega, rfl⟩))).mono ?_
    rintro r w' ⟨rfl, bl⟩
    rw [hd, hw]
    exact ⟨a2, n2, c2, rfl, h.below bl, bl⟩

end Go.Proofs.YtdkaacjeogifdaaGreat.Dk

/-
  The document's own Home of a layout that is none; a box of six cells, set anew.
-/
namespace Go.Proofs.YtdkaacjeogifdaaGreat.Dk
open Go.RowKit
def set6 (w : World) (g : Nat) (x0 x1 x2 x3 x4 x5 : Value) : World := (((((w.setCell ⟨g, 0, none⟩ x0).setCell ⟨g, 1, none⟩ x1).setCell ⟨g, 2, none⟩ x2).setCell ⟨g, 3, none⟩ x3).setCell ⟨g, 4, none⟩ x4).setCell ⟨g, 5, none⟩ x5
theorem O49.set6 {w : World} {g : Nat} {y0 y1 y2 y3 y4 y5 : Value} (hb : Box w g #[y0, y1, y2, y3, y4, y5] 41) (x0 x1 x2 x3 x4 x5 : Value) : O49 w (set6 w g x0 x1 x2 x3 x4 x5) := fun i cur t hi ht => by
  have hn : i ≠ g := fun e => Box.ne hi hb ht e
  unfold Dk.set6
  exact (((((hi.away hn).away hn).away hn).away hn).away hn).away hn
end Go.Proofs.YtdkaacjeogifdaaGreat.Dk
namespace Go.Proofs.YtdkaacjeogifdaaGreat.H
open Go.RowKit
open Go.Proofs.YtdkaacjeogifdaaGreat.Dk (Box)

set_option maxRecDepth 100000 in
theorem rhome_of (w : World) (l0 l1 l2 l3 l4 l5 l6 : Int) (v : Value)
    (c : ∀ u, Calls Tryz.prog 32 #[.agg #[.int .i64 l0, .int .i64 l1, .int .i64 l2, .int .i64 l3, .int .i64 l4, .int .i64 l5, .int .i64 l6]] u fun r w' => r = .returned (.bool false) ∧ Below u.heap.size u w') :
    Calls Tryz.prog 8 #[.agg #[.int .i64 l0, .int .i64 l1, .int .i64 l2, .int .i64 l3, .int .i64 l4, .int .i64 l5, .int .i64 l6], v] w fun r w' => r = .returned (.tuple #[.slice none 0 0, .int .i64 2]) ∧ Below w.heap.size w w' := by
  have al := (Below.refl w.heap.size w).alloc (Nat.le_refl _) (.cells #[.int .i64 l0, .int .i64 l1, .int .i64 l2, .int .i64 l3, .int .i64 l4, .int .i64 l5, .int .i64 l6] 24)
  have x := Box.new w #[.int .i64 l0, .int .i64 l1, .int .i64 l2, .int .i64 l3, .int .i64 l4, .int .i64 l5, .int .i64 l6] 24
  have cR := c (w.alloc (.cells #[.int .i64 l0, .int .i64 l1, .int .i64 l2, .int .i64 l3, .int .i64 l4, .int .i64 l5, .int .i64 l6] 24))
  have c0 := x.cell 0
  have c1 := x.cell 1
  have c2 := x.cell 2
  have c3 := x.cell 3
  have c4 := x.cell 4
  have c5 := x.cell 5
  have c6 := x.cell 6
  simp only [List.getElem?_toArray, List.getElem?_cons_zero, List.getElem?_cons_succ] at c0 c1 c2 c3 c4 c5 c6
  clear c
  go_enter Tryz.func8, Tryz.ntmps8
  go_wp2_with fail
  refine Calls.mono cR ?_
  rintro r u1 ⟨rfl, b1⟩
  have B1 := al.trans (b1.mono al.size)
  clear cR c0 c1 c2 c3 c4 c5 c6 x al b1
  go_wp2_with fail
  exact bodyPost_ret (v := .tuple #[.slice none 0 0, .int .i64 2]) (by simp [results, Tryz.results8, go_sem]) rfl ⟨rfl, B1⟩
theorem rhome_bad (w : World) (l0 l1 l2 l3 l4 l5 l6 : Int) (v : Value) (h : ¬(64 ≤ l0 ∧ l0 ≤ 512)) :
    Calls Tryz.prog 8 #[.agg #[.int .i64 l0, .int .i64 l1, .int .i64 l2, .int .i64 l3, .int .i64 l4, .int .i64 l5, .int .i64 l6], v] w fun r w' => r = .returned (.tuple #[.slice none 0 0, .int .i64 2]) ∧ Below w.heap.size w w' :=
  rhome_of w l0 l1 l2 l3 l4 l5 l6 v (fun u => right_bad l0 l1 l2 l3 l4 l5 l6 h u)
theorem rhome_other (nb : Nat) (h64 : 64 ≤ nb) (h512 : nb ≤ 512) (w : World) (l1 l2 l3 l4 l5 l6 : Int) (v : Value) (hne : #[Value.int .i64 nb, .int .i64 l1, .int .i64 l2, .int .i64 l3, .int .i64 l4, .int .i64 l5, .int .i64 l6] ≠ La.layA nb) :
    Calls Tryz.prog 8 #[.agg #[.int .i64 nb, .int .i64 l1, .int .i64 l2, .int .i64 l3, .int .i64 l4, .int .i64 l5, .int .i64 l6], v] w fun r w' => r = .returned (.tuple #[.slice none 0 0, .int .i64 2]) ∧ Below w.heap.size w w' :=
  rhome_of w nb l1 l2 l3 l4 l5 l6 v (fun u => by
    have := right_good nb h64 h512 u l1 l2 l3 l4 l5 l6
    cases h : La.same7 nb 2 (La.lgs nb) (2 + (La.lgs nb : Int)) (3 + (La.lgs nb : Int)) ((nb : Int) / 16) (3 + (La.lgs nb : Int) + (nb : Int) / 16) nb l1 l2 l3 l4 l5 l6 with
    | false => rw [h] at this; exact this
    | true =>
      simp only [La.same7, decide_eq_true_eq] at h
      obtain ⟨_, rfl, rfl, rfl, rfl, rfl, rfl⟩ := h
      exact absurd rfl hne)
end Go.Proofs.YtdkaacjeogifdaaGreat.H

/-
  Home, beside the document's: both tell the same.
-/
namespace Go.Proofs.YtdkaacjeogifdaaGreat.H
open Go.RowKit
open Go.Proofs.YtdkaacjeogifdaaGreat.Rc (Imgs)

theorem CellsI.below {w u : World} {a : Option Addr} {is : List Im} (h : CellsI w a is) (b : Below w.heap.size w u) : CellsI u a is := fun hp => by
  obtain ⟨g, o, rfl, hc⟩ := h hp
  refine ⟨g, o, rfl, fun j hj => ?_⟩
  obtain ⟨h1, h2⟩ := hc j hj
  have l := block_lt_of_cell h1
  exact ⟨(b.cell (p := ⟨g, o + j * 2, none⟩) l).trans h1, (b.cell (p := ⟨g, o + j * 2 + 1, none⟩) l).trans h2⟩
theorem CellsG.below {w u : World} {a : Option Addr} {gs : List Gr} (h : CellsG w a gs) (b : Below w.heap.size w u) : CellsG u a gs := fun hp => by
  obtain ⟨g, o, rfl, hc⟩ := h hp
  refine ⟨g, o, rfl, fun j hj => ?_⟩
  obtain ⟨h1, h2, h3, h4, h5⟩ := hc j hj
  have l := block_lt_of_cell h1
  exact ⟨(b.cell (p := ⟨g, o + j * 3, none⟩) l).trans h1, (b.cell (p := ⟨g, o + j * 3 + 1, none⟩) l).trans h2, (b.cell (p := ⟨g, o + j * 3 + 2, none⟩) l).trans h3, h4.below b, h5⟩
theorem AnyD.below {w u : World} {L : List ImD} (h : AnyD w L) (b : Below w.heap.size w u) : AnyD u L := fun p hp => by
  obtain ⟨h1, h2⟩ := h p hp
  exact ⟨h1.below b (Nat.le_refl _), h2⟩
/-- two rising lists of the same numbers -/
theorem rising_eq : ∀ {l m : List Int}, l.Pairwise (· < ·) → m.Pairwise (· < ·) → (∀ x, x ∈ l ↔ x ∈ m) → l = m
  | [], [], _, _, _ => rfl
  | [], y :: m, _, _, h => by have := (h y).2 (List.mem_cons_self ..); cases this
  | x :: l, [], _, _, h => by have := (h x).1 (List.mem_cons_self ..); cases this
  | x :: l, y :: m, hl, hm, h => by
    obtain ⟨hx, hl'⟩ := List.pairwise_cons.1 hl
    obtain ⟨hy, hm'⟩ := List.pairwise_cons.1 hm
    have e : x = y := by
      rcases List.mem_cons.1 ((h x).1 (List.mem_cons_self ..)) with e | e
      · exact e
      · rcases List.mem_cons.1 ((h y).2 (List.mem_cons_self ..)) with e' | e'
        · exact e'.symm
        · have := hy x e
          have := hx y e'
          omega
    subst e
    rw [rising_eq hl' hm' (fun z => ?_)]
    constructor
    · intro hz
      rcases List.mem_cons.1 ((h z).1 (List.mem_cons_of_mem _ hz)) with e | e
      · have := hx z hz
        omega
      · exact e
    · intro hz
      rcases List.mem_cons.1 ((h z).2 (List.mem_cons_of_mem _ hz)) with e | e
      · have := hy z hz
        omega
      · exact e
theorem KeysOf.unique {L : List (Int × List UInt8)} {ks ks' : List Int} (h : KeysOf L ks) (h' : KeysOf L ks') : ks = ks' :=
  rising_eq h.1 h'.1 (fun x => (h.2 x).trans (h'.2 x).symm)

/-- what both Homes answer -/
def HomeA (e : Int) (Ls : List (Int × List UInt8)) (u : World) (r : Ending) (w' : World) : Prop := ∃ a n c, r = .returned (.tuple #[.slice a n c, .int .i64 e]) ∧ Ls.length = n ∧ n ≤ 1000 ∧ Imgs w' a Ls ∧ Below u.heap.size u w'
theorem homeA_none (u w' : World) (e : Int) (b : Below u.heap.size u w') : HomeA e [] u (.returned (.tuple #[.slice none 0 0, .int .i64 e])) w' := ⟨none, 0, 0, rfl, rfl, by omega, fun h => by simp at h, b⟩
theorem home_both (w : World) (l0 l1 l2 l3 l4 l5 l6 : Int) (ga : Option Addr) (gn gc : Nat) (G : List GrD) (h : GrsA w ga gn G) (hg : gn ≤ 1000) : ∃ e Ls,
    (∀ u, Below w.heap.size w u → Calls Tryz.prog 7 #[.agg #[.int .i64 l0, .int .i64 l1, .int .i64 l2, .int .i64 l3, .int .i64 l4, .int .i64 l5, .int .i64 l6], .slice ga gn gc] u (HomeA e Ls u)) ∧
    (∀ u, Below w.heap.size w u → Calls Tryz.prog 8 #[.agg #[.int .i64 l0, .int .i64 l1, .int .i64 l2, .int .i64 l3, .int .i64 l4, .int .i64 l5, .int .i64 l6], .slice ga gn gc] u (HomeA e Ls u)) := by
  by_cases h64 : 64 ≤ l0 ∧ l0 ≤ 512
  · obtain ⟨nb, rfl⟩ : ∃ nb : Nat, l0 = nb := ⟨l0.toNat, by omega⟩
    by_cases hne : #[Value.int .i64 nb, .int .i64 l1, .int .i64 l2, .int .i64 l3, .int .i64 l4, .int .i64 l5, .int .i64 l6] = La.layA nb
    · have hlen : (G.map (·.1)).length = gn := by rw [List.length_map, h.len]
      have c1 : ∀ u, Below w.heap.size w u → _ := fun u bu => homeA_at nb (by omega) (by omega) u ga gn gc (G.map (·.1)) (G.flatMap (·.2)) hlen (by omega) (h.cells.below bu) h.is (h.data.below bu)
      have c2 : ∀ u, Below w.heap.size w u → _ := fun u bu => rhome_in nb (by omega) (by omega) u ga gn gc (G.map (·.1)) hlen (by omega) (h.cells.below bu) h.nils h.tot (G.flatMap (·.2)) h.is (h.data.below bu)
      rw [hne]
      generalize G.flatMap (·.2) = L at c1 c2
      cases hall : (L.all fun p => rightIm (2 + (La.lgs nb : Int)) (nb - 1) p.1) with
      | false =>
        refine ⟨90, [], fun u bu => ?_, fun u bu => ?_⟩
        · refine (c1 u bu).mono ?_
          rintro r w' ⟨_, h2, h3⟩
          rw [h2 hall]
          exact homeA_none _ _ _ h3
        · refine (c2 u bu).mono ?_
          rintro r w' ⟨_, h2, h3⟩
          rw [h2 hall]
          exact homeA_none _ _ _ h3
      | true =>
        by_cases hk : ∃ ks, KeysOf (pl L) ks ∧ ks.length ≤ 512
        · obtain ⟨ks, hks, hkl⟩ := hk
          refine ⟨0, ks.map fun k => (k, datD (pl L) k), fun u bu => ?_, fun u bu => ?_⟩
          · refine (c1 u bu).mono ?_
            rintro r w' ⟨h1, _, h3⟩
            obtain ⟨a, c, ks', rfl, h4, h5, h6⟩ := h1 hall
            obtain rfl := hks.unique h4
            exact ⟨a, _, c, rfl, by simp, by omega, h6, h3⟩
          · refine (c2 u bu).mono ?_
            rintro r w' ⟨h1, _, h3⟩
            obtain ⟨a, c, ks', rfl, h4, h5, h6⟩ := h1 hall
            obtain rfl := hks.unique h4
            exact ⟨a, _, c, rfl, by simp, by omega, h6, h3⟩
        · refine ⟨0, [], fun u bu => (c1 u bu).mono ?_, fun u bu => (c2 u bu).mono ?_⟩
          · rintro r w' ⟨h1, _, h3⟩
            obtain ⟨a, c, ks', rfl, h4, h5, h6⟩ := h1 hall
            exact absurd ⟨ks', h4, h5⟩ hk
          · rintro r w' ⟨h1, _, h3⟩
            obtain ⟨a, c, ks', rfl, h4, h5, h6⟩ := h1 hall
            exact absurd ⟨ks', h4, h5⟩ hk
    · refine ⟨2, [], fun u bu => (home_other nb (by omega) (by omega) u l1 l2 l3 l4 l5 l6 _ hne).mono ?_, fun u bu => (rhome_other nb (by omega) (by omega) u l1 l2 l3 l4 l5 l6 _ hne).mono ?_⟩
      · rintro r w' ⟨rfl, h3⟩
        exact homeA_none _ _ _ h3
      · rintro r w' ⟨rfl, h3⟩
        exact homeA_none _ _ _ h3
  · refine ⟨2, [], fun u bu => (home_bad u l0 l1 l2 l3 l4 l5 l6 _ h64).mono ?_, fun u bu => (rhome_bad u l0 l1 l2 l3 l4 l5 l6 _ h64).mono ?_⟩
    · rintro r w' ⟨rfl, h3⟩
      exact homeA_none _ _ _ h3
    · rintro r w' ⟨rfl, h3⟩
      exact homeA_none _ _ _ h3
end Go.Proofs.YtdkaacjeogifdaaGreat.H

/-
  Do: the images, then the superblock; what it refuses.
-/
namespace Go.Proofs.YtdkaacjeogifdaaGreat.H
open Go.RowKit
open Go.Proofs.YtdkaacjeogifdaaGreat.Su (wi supV erP)
open Go.Proofs.YtdkaacjeogifdaaGreat.Dk (Box Upd IsDisk DS Rd)

/-- what Do does -/
def doR (D : DS) (L : List ImD) (o : Option (List UInt8)) (slot : Int) : DS × Nat :=
  match o with
  | none => (D, 2)
  | some sb => if wi slot 0 1 && (L.map (·.1)).all (fits D.nb) then doD (pl L) slot sb D else (D, 2)

theorem owns4096 {w : World} {B n : Nat} {v : Value} {ys : List UInt8} (h : w.ownsRow B 5 1 v n (Su.bcs ys)) (hn : n = 4096) : ∃ g c, v = .slice (some ⟨g, 0, none⟩) 4096 c ∧ B ≤ g ∧ g < w.heap.size ∧ Rd w (some ⟨g, 0, none⟩) ys := by
  subst hn
  rcases h.2 with ⟨h1, h2⟩ | ⟨g, cap, cur, h1, hBg, hg2, hnc, hcm, hcs, ht⟩
  · omega
  · subst h1
    refine ⟨g, cap, rfl, hBg, (Array.getElem?_eq_some_iff.1 hg2).1, ?_⟩
    exact Su.owns_rd_at h

set_option maxRecDepth 100000 in
set_option maxHeartbeats 4000000 in
theorem do_at {g : Nat} {w : World} {D : DS} {F : Nat → Prop} (hd : IsDisk w g D F) (a : Option Addr) (n c : Nat) (L : List ImD) (b e q t slot : Int) (hl : L.length = n) (hn : n ≤ 1000) (hI : ImsD w a L F) (hlim : D.uf.length ≤ 800000 ∧ D.n ≤ 800000) :
    Calls Tryz.prog 15 #[.pointer (some ⟨g, 0, none⟩), .slice a n c, .agg #[.int .i64 b, .int .i64 e, .int .i64 q, .int .i64 t], .int .i64 slot] w fun r w' => r = .returned (.int .i64 ((doR D L (Su.putSuper b e q t) slot).2 : Int)) ∧ (∃ F', IsDisk w' g (doR D L (Su.putSuper b e q t) slot).1 F' ∧ ∀ i, F' i → F i ∨ w.heap.size ≤ i) ∧ Upd F w w' := by
  have HI : Hid (ImsD w a L F) := hI
  have HL : Hid (L.length = n) := hl
  have HLim : Hid (D.uf.length ≤ 800000 ∧ D.n ≤ 800000) := hlim
  have HD : Hid (IsDisk w g D F) := hd
  have hok := hd.ok
  have hflt := hd.flt
  have x := Box.new w #[.int .i64 b, .int .i64 e, .int .i64 q, .int .i64 t] 28
  have B0 := (Below.refl w.heap.size w).alloc (Nat.le_refl _) (.cells #[.int .i64 b, .int .i64 e, .int .i64 q, .int .i64 t] 28)
  have c0 := x.cell 0
  have c1 := x.cell 1
  have c2 := x.cell 2
  have c3 := x.cell 3
  simp only [List.getElem?_toArray, List.getElem?_cons_zero, List.getElem?_cons_succ] at c0 c1 c2 c3
  have cS := Dk.size_of (HD.out.below B0)
  have cP := Su.putSuper_at b e q t (w.alloc (.cells #[.int .i64 b, .int .i64 e, .int .i64 q, .int .i64 t] 28))
  have hsb : Hid (∀ sb, Su.putSuper b e q t = some sb → sb.length = 4096) := fun sb h => by
    unfold Su.putSuper at h
    split at h
    · injection h with h
      rw [← h, Su.superB_length]
    · cases h
  generalize Su.putSuper b e q t = o at cP hsb ⊢
  have hnb1 := hok.lo
  have hnb2 := hok.hi
  have HF : Hid (∀ i, F i → i < w.heap.size) := hflt
  obtain ⟨N, hN⟩ : ∃ N, N = D.nb := ⟨_, rfl⟩
  have HNb : Hid (N = D.nb) := hN
  rw [← hN] at cS hnb1 hnb2
  have hN0 : ((N : Int) == 0) = false := by simp; omega
  clear hI hl hlim hd hok hflt x hN
  go_enter Tryz.func15, Tryz.ntmps15
  go_wp2_with fail
  refine Calls.mono cS ?_
  rintro r u0 ⟨rfl, rfl⟩
  clear cS
  go_wp2_with fail
  refine Calls.mono cP ?_
  rintro r u1 ⟨v, rfl, hrow, b1⟩
  have B1 := B0.trans (b1.mono B0.size)
  clear cP c0 c1 c2 c3
  have U1 : Upd F w u1 := Upd.of_below B1
  cases o with
  | none =>
    have he : erP none = 2 := rfl
    rw [he]
    clear hrow
    go_wp2_with fail
    go_ret
    exact ⟨rfl, ⟨F, HD.out.below B1, fun i h => .inl h⟩, U1⟩
  | some sb =>
    have he : erP (some sb) = 0 := rfl
    rw [he]
    have hl := hsb.out sb rfl
    obtain ⟨gb, cb, rfl, hgb, hgbl, rd⟩ := owns4096 hrow hl
    have hgb : w.heap.size ≤ gb := Nat.le_trans B0.size hgb
    have HR : Hid (Rd u1 (some ⟨gb, 0, none⟩) sb) := rd
    have HSl : Hid (sb.length = 4096) := hl
    clear hrow rd hsb hl
    have cW := within_at slot 0 1 u1
    cases hw : wi slot 0 1 with
    | false =>
      rw [hw] at cW
      have hres : Hid (doR D L (some sb) slot = (D, 2)) := by show _ = _; simp [doR, hw]
      go_wp2_with fail
      refine Calls.mono cW ?_
      rintro r u2 ⟨rfl, rfl⟩
      go_wp2_with fail
      go_ret
      rw [hres.out]
      exact ⟨rfl, ⟨F, HD.out.below B1, fun i h => .inl h⟩, U1⟩
    | true =>
      rw [hw] at cW
      have cA := allFit_at u1 a n c (L.map (·.1)) N (by rw [List.length_map]; exact HL.out) (by omega) ⟨by omega, by omega⟩ (fun h => by
        obtain ⟨b', o', e', hc'⟩ := HI.out.cells h
        exact ⟨b', o', e', fun j hj => ⟨(B1.cell (p := ⟨b', o' + j * 2, none⟩) (block_lt_of_cell (hc' j hj).1)).trans (hc' j hj).1, (B1.cell (p := ⟨b', o' + j * 2 + 1, none⟩) (block_lt_of_cell (hc' j hj).2)).trans (hc' j hj).2⟩⟩)
      cases ha : (L.map (·.1)).all (fits N) with
      | false =>
        rw [ha] at cA
        have hres : Hid (doR D L (some sb) slot = (D, 2)) := by show _ = _; simp only [doR]; rw [← HNb.out, ha, hw]; rfl
        clear ha
        go_wp2_with fail
        refine Calls.mono cW ?_
        rintro r u2 ⟨rfl, rfl⟩
        go_wp2_with fail
        refine Calls.mono cA ?_
        rintro r u3 ⟨rfl, b3⟩
        go_wp2_with fail
        go_ret
        rw [hres.out]
        have B3 := B1.trans (b3.mono B1.size)
        exact ⟨rfl, ⟨F, HD.out.below B3, fun i h => .inl h⟩, Upd.of_below B3⟩
      | true =>
        rw [ha] at cA
        have hres : Hid (doR D L (some sb) slot = doD (pl L) slot sb D) := by show _ = _; simp only [doR]; rw [← HNb.out, ha, hw]; rfl
        clear ha
        go_wp2_with fail
        refine Calls.mono cW ?_
        rintro r u2 ⟨rfl, rfl⟩
        go_wp2_with fail
        refine Calls.mono cA ?_
        rintro r u3 ⟨rfl, b3⟩
        have B3 := B1.trans (b3.mono B1.size)
        have hI3 : ImsD u3 a L F := by
          refine ⟨fun h => ?_, fun p hp => ?_, HI.out.out⟩
          · obtain ⟨b', o', e', hc'⟩ := HI.out.cells h
            exact ⟨b', o', e', fun j hj => ⟨(B3.cell (p := ⟨b', o' + j * 2, none⟩) (block_lt_of_cell (hc' j hj).1)).trans (hc' j hj).1, (B3.cell (p := ⟨b', o' + j * 2 + 1, none⟩) (block_lt_of_cell (hc' j hj).2)).trans (hc' j hj).2⟩⟩
          · obtain ⟨h1, h2, h3⟩ := HI.out.data p hp
            exact ⟨rd_upd h1 (Upd.of_below (F := F) B3) (fun ad e => (h3 ad e).2), h2, fun ad e => ⟨Nat.lt_of_lt_of_le (h3 ad e).1 B3.size, (h3 ad e).2⟩⟩
        have cL := lay_at (HD.out.below B3) a n c L HL.out hn hI3 ⟨by have := HLim.out.1; omega, by have := HLim.out.2; omega⟩
        have hr3 : Hid (Rd u3 (some ⟨gb, 0, none⟩) sb) := HR.out.below b3 (Nat.le_refl _)
        have z3 : gb < u3.heap.size := Nat.lt_of_lt_of_le hgbl b3.size
        have hle := layD_le (pl L) D
        have HLe : Hid ((layD (pl L) D).1.nb = D.nb ∧ (layD (pl L) D).1.uf.length ≤ D.uf.length + n ∧ (layD (pl L) D).1.n ≤ D.n + n) := by
          rw [show (pl L).length = n by simp [pl, HL.out]] at hle
          exact hle
        clear cA cW hI3 b3 HR hgbl hle
        by_cases h0 : (layD (pl L) D).2 = 0
        · have hres2 : Hid (doR D L (some sb) slot = layD [(slot, sb)] (layD (pl L) D).1) := by show _ = _; rw [hres.out, doD, if_pos h0]
          rw [h0] at cL
          generalize (layD (pl L) D).1 = D1 at cL hres2 HLe
          clear hres h0
          go_wp2_with fail
          refine Calls.mono cL ?_
          rintro r u4 ⟨rfl, ⟨F4, hd4, hF4⟩, U4⟩
          have U5 : Upd F w u4 := (Upd.of_below (F := F) B3).trans U4 (fun i h => .inl h)
          have hg4 : ¬ F gb := fun h => by have := HF.out _ h; omega
          have hgF4 : ¬ F4 gb := fun h => by
            rcases hF4 _ h with h1 | h1
            · exact hg4 h1
            · omega
          have rd4 : Rd u4 (some ⟨gb, 0, none⟩) sb := rd_upd hr3.out U4 (fun ad e => by injection e with e; rw [← e]; exact hg4)
          have bA := (Below.refl u4.heap.size u4).alloc (Nat.le_refl _) (.cells #[.int .i64 slot, .slice (some ⟨gb, 0, none⟩) 4096 cb] 57)
          have bx := Box.new u4 #[.int .i64 slot, .slice (some ⟨gb, 0, none⟩) 4096 cb] 57
          have z4 : gb < u4.heap.size := Nat.lt_of_lt_of_le z3 U4.size
          have hFl := hd4.flt
          have hI5 : ImsD (u4.alloc (.cells #[.int .i64 slot, .slice (some ⟨gb, 0, none⟩) 4096 cb] 57)) (some ⟨u4.heap.size, 0, none⟩) [((slot, some ⟨gb, 0, none⟩, 4096, cb), sb)] F4 := by
            refine ⟨fun _ => ⟨u4.heap.size, 0, rfl, fun j hj => ?_⟩, fun p hp => ?_, fun ad e => ?_⟩
            · have hj0 : j = 0 := by simp at hj; omega
              subst hj0
              have y0 := bx.cell 0
              have y1 := bx.cell 1
              simp only [List.getElem?_toArray, List.getElem?_cons_zero, List.getElem?_cons_succ] at y0 y1
              exact ⟨y0, y1⟩
            · simp at hp
              subst hp
              exact ⟨rd4.below bA (Nat.le_refl _), HSl.out, fun ad e => by injection e with e; rw [← e]; exact ⟨by simp; omega, hgF4⟩⟩
            · injection e with e
              rw [← e]
              intro h
              have := hFl _ h
              exact Nat.lt_irrefl _ this
          have cL2 := lay_at (hd4.below bA) (some ⟨u4.heap.size, 0, none⟩) 1 1 [((slot, some ⟨gb, 0, none⟩, 4096, cb), sb)] rfl (by decide) hI5 ⟨by have := HLe.out.2.1; have := HLim.out.1; omega, by have := HLe.out.2.2; have := HLim.out.2; omega⟩
          have hpl : pl [((slot, some ⟨gb, 0, none⟩, 4096, cb), sb)] = [(slot, sb)] := rfl
          rw [hpl] at cL2
          clear cL hI5 bx rd4 hpl
          generalize layD [(slot, sb)] D1 = R at cL2 hres2
          go_wp2_with fail
          refine Calls.mono cL2 ?_
          rintro r u6 ⟨rfl, ⟨F6, hd6, hF6⟩, U6⟩
          go_wp2_with fail
          go_ret
          rw [hres2.out]
          have U7 := (U5.alloc (.cells #[.int .i64 slot, .slice (some ⟨gb, 0, none⟩) 4096 cb] 57)).trans U6 (fun i h => by
            rcases hF4 i h with h1 | h1
            · exact .inl h1
            · exact .inr (Nat.le_trans B3.size h1))
          refine ⟨rfl, ⟨F6, hd6, fun i hi => ?_⟩, U7⟩
          rcases hF6 i hi with h1 | h1
          · rcases hF4 i h1 with h2 | h2
            · exact .inl h2
            · exact .inr (Nat.le_trans B3.size h2)
          · exact .inr (Nat.le_trans (Nat.le_trans U5.size bA.size) h1)
        · have hres2 : Hid (doR D L (some sb) slot = layD (pl L) D) := by show _ = _; rw [hres.out, doD, if_neg h0]
          have hne : (((layD (pl L) D).2 : Int) != 0) = true := by simp; omega
          clear h0 hres
          generalize layD (pl L) D = R at cL hres2 hne
          obtain ⟨D4, ee⟩ := R
          dsimp only at cL hne
          go_wp2_with fail
          refine Calls.mono cL ?_
          rintro r u4 ⟨rfl, ⟨F4, hd4, hF4⟩, U4⟩
          go_wp2_with fail
          go_ret
          rw [hres2.out]
          exact ⟨rfl, ⟨F4, hd4, fun i hi => by
            rcases hF4 i hi with h1 | h1
            · exact .inl h1
            · exact .inr (Nat.le_trans B3.size h1)⟩, (Upd.of_below (F := F) B3).trans U4 (fun i h => .inl h)⟩
end Go.Proofs.YtdkaacjeogifdaaGreat.H

/-
  The document's own Do, where it refuses what it is handed.
-/
namespace Go.Proofs.YtdkaacjeogifdaaGreat.H
open Go.RowKit
open Go.Proofs.YtdkaacjeogifdaaGreat.Su (wi erP)
open Go.Proofs.YtdkaacjeogifdaaGreat.Dk (Box)

/-- what stands while the document's Do looks at the images -/
structure DnS (w u : World) (V : Array Value) : Prop where
  d : Box u w.heap.size V 41
  o : Box u (w.heap.size + 2) #[.slice none 0 0, .slice none 0 0, .int .i64 0, .bool false, .int .i64 0, .int .i64 0] 41
  bel : Below w.heap.size w u
theorem DnS.drew {w u : World} {V : Array Value} (h : DnS w u V) (q : Nat) : DnS w (u.drewN q) V := ⟨h.d, h.o, below_drewN h.bel q⟩

set_option maxRecDepth 100000 in
set_option maxHeartbeats 4000000 in
theorem rdo_no (a1 a2 : Option Addr) (n1 c1 n2 c2 : Nat) (cnt am fl : Int) (dn : Bool) (w : World) (a : Option Addr) (n c : Nat) (is : List Im) (b e q t slot : Int) (_hn1 : n1 ≤ 512) (hl : is.length = n) (hn : n ≤ 1000000) (hI : CellsI w a is)
    (hno : Su.putSuper b e q t = none ∨ wi slot 0 1 = false ∨ is.all (fits n1) = false) :
    Calls Tryz.prog 16 #[.agg #[.slice a1 n1 c1, .slice a2 n2 c2, .int .i64 cnt, .bool dn, .int .i64 am, .int .i64 fl], .slice a n c, .agg #[.int .i64 b, .int .i64 e, .int .i64 q, .int .i64 t], .int .i64 slot] w fun r w' =>
      r = .returned (.tuple #[.agg #[.slice a1 n1 c1, .slice a2 n2 c2, .int .i64 cnt, .bool dn, .int .i64 am, .int .i64 fl], .int .i64 2]) ∧ Below w.heap.size w w' := by
  have x0 := ((Box.new w #[.slice a1 n1 c1, .slice a2 n2 c2, .int .i64 cnt, .bool dn, .int .i64 am, .int .i64 fl] 41).alloc (.cells #[.int .i64 b, .int .i64 e, .int .i64 q, .int .i64 t] 28)).alloc (.cells #[.slice none 0 0, .slice none 0 0, .int .i64 0, .bool false, .int .i64 0, .int .i64 0] 41)
  have s0 := (Box.new (w.alloc (.cells #[.slice a1 n1 c1, .slice a2 n2 c2, .int .i64 cnt, .bool dn, .int .i64 am, .int .i64 fl] 41)) #[.int .i64 b, .int .i64 e, .int .i64 q, .int .i64 t] 28).alloc (.cells #[.slice none 0 0, .slice none 0 0, .int .i64 0, .bool false, .int .i64 0, .int .i64 0] 41)
  have y0 := Box.new ((w.alloc (.cells #[.slice a1 n1 c1, .slice a2 n2 c2, .int .i64 cnt, .bool dn, .int .i64 am, .int .i64 fl] 41)).alloc (.cells #[.int .i64 b, .int .i64 e, .int .i64 q, .int .i64 t] 28)) #[.slice none 0 0, .slice none 0 0, .int .i64 0, .bool false, .int .i64 0, .int .i64 0] 41
  have B0 := (((Below.refl w.heap.size w).alloc (Nat.le_refl _) (.cells #[.slice a1 n1 c1, .slice a2 n2 c2, .int .i64 cnt, .bool dn, .int .i64 am, .int .i64 fl] 41)).alloc (by simp) (.cells #[.int .i64 b, .int .i64 e, .int .i64 q, .int .i64 t] 28)).alloc (by simp; omega) (.cells #[.slice none 0 0, .slice none 0 0, .int .i64 0, .bool false, .int .i64 0, .int .i64 0] 41)
  have sz : ((w.alloc (.cells #[.slice a1 n1 c1, .slice a2 n2 c2, .int .i64 cnt, .bool dn, .int .i64 am, .int .i64 fl] 41)).alloc (.cells #[.int .i64 b, .int .i64 e, .int .i64 q, .int .i64 t] 28)).heap.size = w.heap.size + 2 := by simp
  have sz1 : (w.alloc (.cells #[.slice a1 n1 c1, .slice a2 n2 c2, .int .i64 cnt, .bool dn, .int .i64 am, .int .i64 fl] 41)).heap.size = w.heap.size + 1 := by simp
  rw [sz] at y0
  rw [sz1] at s0
  clear sz sz1
  have k0 := s0.cell 0
  have k1 := s0.cell 1
  have k2 := s0.cell 2
  have k3 := s0.cell 3
  simp only [List.getElem?_toArray, List.getElem?_cons_zero, List.getElem?_cons_succ] at k0 k1 k2 k3
  have cP := Su.refPutSuper_at b e q t (((w.alloc (.cells #[.slice a1 n1 c1, .slice a2 n2 c2, .int .i64 cnt, .bool dn, .int .i64 am, .int .i64 fl] 41)).alloc (.cells #[.int .i64 b, .int .i64 e, .int .i64 q, .int .i64 t] 28)).alloc (.cells #[.slice none 0 0, .slice none 0 0, .int .i64 0, .bool false, .int .i64 0, .int .i64 0] 41))
  have HNO : Hid (Su.putSuper b e q t = none ∨ wi slot 0 1 = false ∨ is.all (fits n1) = false) := hno
  have HI : Hid (CellsI w a is) := hI
  have HL : Hid (is.length = n) := hl
  generalize Su.putSuper b e q t = o at cP HNO
  clear hno hI hl s0
  go_enter Tryz.func16, Tryz.ntmps16
  go_wp2_with fail
  refine Calls.mono cP ?_
  rintro r u1 ⟨v, rfl, hrow, b1⟩
  have S1 : Hid (DnS w u1 #[.slice a1 n1 c1, .slice a2 n2 c2, .int .i64 cnt, .bool dn, .int .i64 am, .int .i64 fl]) := ⟨x0.below b1, y0.below b1, B0.trans (b1.mono B0.size)⟩
  clear k0 k1 k2 k3 cP hrow b1 x0 y0 B0
  cases o with
  | none =>
    have he : erP none = 2 := rfl
    rw [he]
    obtain ⟨p0, p1, p2, p3, p4, p5⟩ := S1.out.d.all6
    obtain ⟨q0, q1, q2, q3, q4, q5⟩ := S1.out.o.all6
    obtain ⟨g0, g1, g2, g3, g4, g5⟩ := S1.out.o.fr6
    have B1 := S1.out.bel
    go_wp2_with fail
    refine bodyPost_ret (hd := rfl) (hR := ⟨rfl, ?_⟩) (hr := ?_)
    · simp [results, Tryz.results16, go_sem, *]
    · repeat (refine Below.setCell ?_ (by simp; omega) _)
      exact B1
  | some sb =>
    have he : erP (some sb) = 0 := rfl
    rw [he]
    cases hw : wi slot 0 1 with
    | false =>
      have hs : (slot != 0) = true ∧ (slot != 1) = true := by
        simp [wi] at hw
        simp
        omega
      obtain ⟨hs0, hs1⟩ := hs
      clear hw HNO
      obtain ⟨p0, p1, p2, p3, p4, p5⟩ := S1.out.d.all6
      obtain ⟨q0, q1, q2, q3, q4, q5⟩ := S1.out.o.all6
      obtain ⟨g0, g1, g2, g3, g4, g5⟩ := S1.out.o.fr6
      have B1 := S1.out.bel
      go_wp2_with fail
      refine bodyPost_ret (hd := rfl) (hR := ⟨rfl, ?_⟩) (hr := ?_)
      · simp [results, Tryz.results16, go_sem, *]
      · repeat (refine Below.setCell ?_ (by simp; omega) _)
        exact B1
    | true =>
      have hb : Hid (is.all (fits n1) = false) := by
        rcases HNO.out with h | h | h
        · cases h
        · rw [hw] at h; cases h
        · exact h
      have hs : slot = 0 ∨ slot = 1 := by
        simp [wi] at hw
        omega
      clear hw HNO
      have HR : Hid (DnS w u1 #[.slice a1 n1 c1, .slice a2 n2 c2, .int .i64 cnt, .bool dn, .int .i64 am, .int .i64 fl]) := S1.out
      clear S1
      rcases hs with rfl | rfl
      · go_wp2_with fail
        go_loopw [12] (fun i u => ∃ k : Nat, k ≤ n ∧ i = .int .i64 (k : Int) ∧ (∀ j (h : j < is.length), j < k → fits n1 is[j] = true) ∧ DnS w u #[.slice a1 n1 c1, .slice a2 n2 c2, .int .i64 cnt, .bool dn, .int .i64 am, .int .i64 fl]) (fun i _ => n - (intOf i).toNat)
        case atStart => exact ⟨0, Nat.zero_le _, rfl, fun j _ h => absurd h (Nat.not_lt_zero _), HR.out⟩
        case round =>
          obtain ⟨k, hk, rfl, hall, hS⟩ := hrel
          have HS : Hid (DnS w wr #[.slice a1 n1 c1, .slice a2 n2 c2, .int .i64 cnt, .bool dn, .int .i64 am, .int .i64 fl]) := hS
          have HA : Hid (∀ j (h : j < is.length), j < k → fits n1 is[j] = true) := hall
          clear hall
          by_cases hlt : k < n
          · have hki : (k : Int) < (n : Int) := by omega
            have hk0 : (0 : Int) ≤ (k : Int) := by omega
            have hkl : k < is.length := by rw [HL.out]; exact hlt
            obtain ⟨bb, o, rfl, hcc⟩ := HI.out (by omega)
            obtain ⟨z0, z1⟩ := hcc k hkl
            have lb := block_lt_of_cell z0
            have x0 := (hS.bel.cell (p := ⟨bb, o + k * 2, none⟩) lb).trans z0
            have x1 := (hS.bel.cell (p := ⟨bb, o + k * 2 + 1, none⟩) lb).trans z1
            have d0 := hS.d.cell 0
            simp only [List.getElem?_toArray, List.getElem?_cons_zero] at d0
            have HA2 : Hid (fits n1 is[k] = true → ∀ j (h : j < is.length), j < k + 1 → fits n1 is[j] = true) := fun hf j hj hjk => by
              rcases Nat.lt_or_ge j k with h | h
              · exact HA.out j hj h
              · obtain rfl : j = k := by omega
                exact hf
            generalize (is[k]'hkl) = P at x0 x1 HA2
            obtain ⟨pb, pa, pn, pc⟩ := P
            dsimp only at x0 x1
            clear hcc z0 z1 lb hS HA
            by_cases h1 : pb < 2
            · have e1 : decide (pb < 2) = true := decide_eq_true h1
              go_wp2_with fail
              go_quiet (fail)
              have S3 := HS.out.drew nq
              clear x0 x1 d0
              obtain ⟨p0, p1, p2, p3, p4, p5⟩ := S3.d.all6
              obtain ⟨q0, q1, q2, q3, q4, q5⟩ := S3.o.all6
              obtain ⟨g0, g1, g2, g3, g4, g5⟩ := S3.o.fr6
              have B1 := S3.bel
              go_wp2_with fail
              refine bodyPost_ret (hd := rfl) (hR := ⟨rfl, ?_⟩) (hr := ?_)
              · simp [results, Tryz.results16, go_sem, *]
              · repeat (refine Below.setCell ?_ (by simp; omega) _)
                exact B1
            · have e1 : decide (pb < 2) = false := decide_eq_false h1
              by_cases h2 : (n1 : Int) ≤ pb
              · have e2 : decide ((n1 : Int) ≤ pb) = true := decide_eq_true h2
                go_wp2_with fail
                go_quiet (fail)
                have S3 := HS.out.drew nq
                clear x0 x1 d0
                obtain ⟨p0, p1, p2, p3, p4, p5⟩ := S3.d.all6
                obtain ⟨q0, q1, q2, q3, q4, q5⟩ := S3.o.all6
                obtain ⟨g0, g1, g2, g3, g4, g5⟩ := S3.o.fr6
                have B1 := S3.bel
                go_wp2_with fail
                refine bodyPost_ret (hd := rfl) (hR := ⟨rfl, ?_⟩) (hr := ?_)
                · simp [results, Tryz.results16, go_sem, *]
                · repeat (refine Below.setCell ?_ (by simp; omega) _)
                  exact B1
              · have e2 : decide ((n1 : Int) ≤ pb) = false := decide_eq_false h2
                by_cases h3 : pn = 4096
                · subst h3
                  have hf : fits n1 (pb, pa, 4096, pc) = true := by
                    simp [fits, wi]
                    omega
                  have HA3 : Hid (∀ j (h : j < is.length), j < k + 1 → fits n1 is[j] = true) := HA2.out hf
                  clear HA2 hf
                  go_wp2_with fail
                  go_quiet (fail)
                  have HS3 : Hid _ := HS.out.drew nq
                  clear x0 x1 d0
                  go_wp2_with fail
                  go_roundw
                  case rel => exact ⟨k + 1, by omega, by push_cast; rfl, HA3.out, HS3.out⟩
                  case measure => simp [intOf]; omega
                · have e3 : ((pn : Int) != 4096) = true := by simp; omega
                  have e4 : ((pn : Int) == 4096) = false := by simp; omega
                  go_wp2_with fail
                  go_quiet (fail)
                  have S3 := HS.out.drew nq
                  clear x0 x1 d0
                  obtain ⟨p0, p1, p2, p3, p4, p5⟩ := S3.d.all6
                  obtain ⟨q0, q1, q2, q3, q4, q5⟩ := S3.o.all6
                  obtain ⟨g0, g1, g2, g3, g4, g5⟩ := S3.o.fr6
                  have B1 := S3.bel
                  go_wp2_with fail
                  refine bodyPost_ret (hd := rfl) (hR := ⟨rfl, ?_⟩) (hr := ?_)
                  · simp [results, Tryz.results16, go_sem, *]
                  · repeat (refine Below.setCell ?_ (by simp; omega) _)
                    exact B1
          · have hke : k = n := by omega
            have h := hb.out
            rw [List.all_eq_true.2 (fun p hp => by
              obtain ⟨j, hj, rfl⟩ := List.getElem_of_mem hp
              exact HA.out j hj (by have := HL.out; omega))] at h
            cases h
      · go_wp2_with fail
        go_loopw [12] (fun i u => ∃ k : Nat, k ≤ n ∧ i = .int .i64 (k : Int) ∧ (∀ j (h : j < is.length), j < k → fits n1 is[j] = true) ∧ DnS w u #[.slice a1 n1 c1, .slice a2 n2 c2, .int .i64 cnt, .bool dn, .int .i64 am, .int .i64 fl]) (fun i _ => n - (intOf i).toNat)
        case atStart => exact ⟨0, Nat.zero_le _, rfl, fun j _ h => absurd h (Nat.not_lt_zero _), HR.out⟩
        case round =>
          obtain ⟨k, hk, rfl, hall, hS⟩ := hrel
          have HS : Hid (DnS w wr #[.slice a1 n1 c1, .slice a2 n2 c2, .int .i64 cnt, .bool dn, .int .i64 am, .int .i64 fl]) := hS
          have HA : Hid (∀ j (h : j < is.length), j < k → fits n1 is[j] = true) := hall
          clear hall
          by_cases hlt : k < n
          · have hki : (k : Int) < (n : Int) := by omega
            have hk0 : (0 : Int) ≤ (k : Int) := by omega
            have hkl : k < is.length := by rw [HL.out]; exact hlt
            obtain ⟨bb, o, rfl, hcc⟩ := HI.out (by omega)
            obtain ⟨z0, z1⟩ := hcc k hkl
            have lb := block_lt_of_cell z0
            have x0 := (hS.bel.cell (p := ⟨bb, o + k * 2, none⟩) lb).trans z0
            have x1 := (hS.bel.cell (p := ⟨bb, o + k * 2 + 1, none⟩) lb).trans z1
            have d0 := hS.d.cell 0
            simp only [List.getElem?_toArray, List.getElem?_cons_zero] at d0
            have HA2 : Hid (fits n1 is[k] = true → ∀ j (h : j < is.length), j < k + 1 → fits n1 is[j] = true) := fun hf j hj hjk => by
              rcases Nat.lt_or_ge j k with h | h
              · exact HA.out j hj h
              · obtain rfl : j = k := by omega
                exact hf
            generalize (is[k]'hkl) = P at x0 x1 HA2
            obtain ⟨pb, pa, pn, pc⟩ := P
            dsimp only at x0 x1
            clear hcc z0 z1 lb hS HA
            by_cases h1 : pb < 2
            · have e1 : decide (pb < 2) = true := decide_eq_true h1
              go_wp2_with fail
              go_quiet (fail)
              have S3 := HS.out.drew nq
              clear x0 x1 d0
              obtain ⟨p0, p1, p2, p3, p4, p5⟩ := S3.d.all6
              obtain ⟨q0, q1, q2, q3, q4, q5⟩ := S3.o.all6
              obtain ⟨g0, g1, g2, g3, g4, g5⟩ := S3.o.fr6
              have B1 := S3.bel
              go_wp2_with fail
              refine bodyPost_ret (hd := rfl) (hR := ⟨rfl, ?_⟩) (hr := ?_)
              · simp [results, Tryz.results16, go_sem, *]
              · repeat (refine Below.setCell ?_ (by simp; omega) _)
                exact B1
            · have e1 : decide (pb < 2) = false := decide_eq_false h1
              by_cases h2 : (n1 : Int) ≤ pb
              · have e2 : decide ((n1 : Int) ≤ pb) = true := decide_eq_true h2
                go_wp2_with fail
                go_quiet (fail)
                have S3 := HS.out.drew nq
                clear x0 x1 d0
                obtain ⟨p0, p1, p2, p3, p4, p5⟩ := S3.d.all6
                obtain ⟨q0, q1, q2, q3, q4, q5⟩ := S3.o.all6
                obtain ⟨g0, g1, g2, g3, g4, g5⟩ := S3.o.fr6
                have B1 := S3.bel
                go_wp2_with fail
                refine bodyPost_ret (hd := rfl) (hR := ⟨rfl, ?_⟩) (hr := ?_)
                · simp [results, Tryz.results16, go_sem, *]
                · repeat (refine Below.setCell ?_ (by simp; omega) _)
                  exact B1
              · have e2 : decide ((n1 : Int) ≤ pb) = false := decide_eq_false h2
                by_cases h3 : pn = 4096
                · subst h3
                  have hf : fits n1 (pb, pa, 4096, pc) = true := by
                    simp [fits, wi]
                    omega
                  have HA3 : Hid (∀ j (h : j < is.length), j < k + 1 → fits n1 is[j] = true) := HA2.out hf
                  clear HA2 hf
                  go_wp2_with fail
                  go_quiet (fail)
                  have HS3 : Hid _ := HS.out.drew nq
                  clear x0 x1 d0
                  go_wp2_with fail
                  go_roundw
                  case rel => exact ⟨k + 1, by omega, by push_cast; rfl, HA3.out, HS3.out⟩
                  case measure => simp [intOf]; omega
                · have e3 : ((pn : Int) != 4096) = true := by simp; omega
                  have e4 : ((pn : Int) == 4096) = false := by simp; omega
                  go_wp2_with fail
                  go_quiet (fail)
                  have S3 := HS.out.drew nq
                  clear x0 x1 d0
                  obtain ⟨p0, p1, p2, p3, p4, p5⟩ := S3.d.all6
                  obtain ⟨q0, q1, q2, q3, q4, q5⟩ := S3.o.all6
                  obtain ⟨g0, g1, g2, g3, g4, g5⟩ := S3.o.fr6
                  have B1 := S3.bel
                  go_wp2_with fail
                  refine bodyPost_ret (hd := rfl) (hR := ⟨rfl, ?_⟩) (hr := ?_)
                  · simp [results, Tryz.results16, go_sem, *]
                  · repeat (refine Below.setCell ?_ (by simp; omega) _)
                    exact B1
          · have hke : k = n := by omega
            have h := hb.out
            rw [List.all_eq_true.2 (fun p hp => by
              obtain ⟨j, hj, rfl⟩ := List.getElem_of_mem hp
              exact HA.out j hj (by have := HL.out; omega))] at h
            cases h
end Go.Proofs.YtdkaacjeogifdaaGreat.H

/-
  What stands while the document's Do writes.
-/
namespace Go.Proofs.YtdkaacjeogifdaaGreat.H
open Go.RowKit
open Go.Proofs.YtdkaacjeogifdaaGreat.Dk (Box DS RD refA set6 Rd fuseI)

def zero6 : Array Value := #[.slice none 0 0, .slice none 0 0, .int .i64 0, .bool false, .int .i64 0, .int .i64 0]
structure DyS (w u : World) (Q : Nat → Prop) (gb : Nat) (cur : Array Value) (a1 a2 : Option Addr) (n1 c1 n2 c2 : Nat) (E : DS) : Prop where
  d : Box u w.heap.size (refA a1 a2 n1 c1 n2 c2 E) 41
  o : Box u (w.heap.size + 2) zero6 41
  r : RD u Q a1 a2 n1 c1 n2 c2 E
  s : Box u gb cur 5
  bel : Below w.heap.size w u
/-- the six values of a disk, laid over its box -/
def set6D (u : World) (g : Nat) (a1 a2 : Option Addr) (n1 c1 n2 c2 : Nat) (E : DS) : World := set6 u g (.slice a1 n1 c1) (.slice a2 n2 c2) (.int .i64 (E.n : Int)) (.bool E.gone) (.int .i64 (fuseI E.arm)) (.int .i64 (fuseI E.fail))
theorem DyS.next {w u u' : World} {Q : Nat → Prop} {gb : Nat} {cur : Array Value} {a1 a2 a1' a2' : Option Addr} {n1 c1 n2 c2 m1 c1' n2' c2' : Nat} {E E' : DS} (h : DyS w u Q gb cur a1 a2 n1 c1 n2 c2 E) (b : Below u.heap.size u u') (r' : RD u' Q a1' a2' m1 c1' n2' c2' E') : DyS w (set6D u' w.heap.size a1' a2' m1 c1' n2' c2' E') Q gb cur a1' a2' m1 c1' n2' c2' E' := by
  have hd := h.d.below b
  have hn : w.heap.size + 2 ≠ w.heap.size := by omega
  unfold refA at hd
  refine ⟨?_, ?_, r'.o49 (Dk.O49.set6 hd _ _ _ _ _ _), Dk.O49.set6 hd _ _ _ _ _ _ gb cur 5 (h.s.below b) (by decide), ?_⟩
  · unfold set6D set6 refA
    exact (((((hd.store 0 _).store 1 _).store 2 _).store 3 _).store 4 _).store 5 _
  · unfold set6D set6
    exact ((((((h.o.below b).away hn).away hn).away hn).away hn).away hn).away hn
  · unfold set6D set6
    have B := h.bel.trans (b.mono h.bel.size)
    repeat (refine Below.setCell ?_ (by simp) _)
    exact B
theorem DyS.below {w u u' : World} {Q : Nat → Prop} {gb : Nat} {cur : Array Value} {a1 a2 : Option Addr} {n1 c1 n2 c2 : Nat} {E : DS} (h : DyS w u Q gb cur a1 a2 n1 c1 n2 c2 E) (b : Below u.heap.size u u') : DyS w u' Q gb cur a1 a2 n1 c1 n2 c2 E :=
  ⟨h.d.below b, h.o.below b, h.r.below b, h.s.below b, h.bel.trans (b.mono h.bel.size)⟩
end Go.Proofs.YtdkaacjeogifdaaGreat.H

/-
  Loads are taken first in a region that draws, though later operations, which wait for them, write into the cells that were loaded.
-/
namespace Go.Proofs.YtdkaacjeogifdaaGreat.H
open Go.Proofs.YtdkaacjeogifdaaGreat.Dk (Gives waits standIn standIn_apart standIn_yields)

section
variable {P : Program} {ops : Array Oper} {Q : Exit → Act → World → Prop} {md : Region.Mode} {C : Act → World → Prop} {late : List Nat}

/-- one of the late ones has come up -/
def anyLate (late : List Nat) (listed : Array Bool) : Bool := late.any fun j => listed.getD j false
/-- Whatever order the draw gives: it ends in Q, and every step stays in the class as long as no late one has come up. -/
def wpAnyE (P : Program) (md : Region.Mode) (ops : Array Oper) (Q : Exit → Act → World → Prop) (C : Act → World → Prop) (late : List Nat) : Nat → Array Bool → Act → World → Prop
  | 0, listed, a, w => Region.ready md ops listed = [] ∧ Q .normal a w
  | fuel + 1, listed, a, w => (Region.ready md ops listed = [] → Q .normal a w) ∧
    ∀ i ∈ Region.ready md ops listed, wpOp P ops Q i (fun a' w' => (anyLate late listed = true ∨ late.contains i = true ∨ C a' w') ∧ wpAnyE P md ops Q C late fuel (listed.setIfInBounds i true) a' w') a w

theorem wpAny_of_E : ∀ (fuel : Nat) (listed : Array Bool) (a : Act) (w : World), wpAnyE P md ops Q C late fuel listed a w → wpAny P md ops Q fuel listed a w
  | 0, _, _, _, h => h
  | fuel + 1, _, _, _, h => ⟨h.1, fun i hi => wpOp_mono (fun a' w' h' => wpAny_of_E fuel _ a' w' h'.2) (h.2 i hi)⟩

theorem anyLate_set {listed : Array Bool} {j : Nat} (h : anyLate late listed = false) (hj : late.contains j = false) : anyLate late (listed.setIfInBounds j true) = false := by
  unfold anyLate at h ⊢
  rw [List.any_eq_false] at h ⊢
  intro k hk
  have hkj : j ≠ k := fun e => by
    subst e
    rw [List.contains_eq_mem, decide_eq_false_iff_not] at hj
    exact hj hk
  rw [getD_set_ne false hkj]
  exact h k hk

theorem wpAnyE_first {i : Nat} {oi : Oper} {v : Value} (hi : ops[i]? = some oi) (hs : Region.noSelect ops = true) (hl : waits md ops late i = true) (hli : late.contains i = false)
    (hQ : ∀ c a w, Q (.panic c) (a.put oi.dst v) w → Q (.panic c) a w) (hg : Gives P ops C oi v) (hdn : ∀ a w, C (a.put oi.dst v) w → C a w) (hup : ∀ a w, C a w → C (a.put oi.dst v) w) :
    ∀ (fuel : Nat) (listed : Array Bool) (a : Act) (w : World), anyLate late listed = false →
      (∀ j oj, ops[j]? = some oj → j ≠ i → listed.getD j true = false → (∀ e ∈ oj.after, Region.binds md e = true → e.on ≠ i) → oi.apart ops oj = true) →
      i ∈ Region.ready md ops listed → C a w →
      wpAnyE P md ops Q C late fuel (listed.setIfInBounds i true) (a.put oi.dst v) w → wpAnyE P md ops Q C late (fuel + 1) listed a w
  | fuel, listed, a, w, hn, hfree, hr, hc, H => by
    refine ⟨fun h => (by rw [h] at hr; cases hr), fun j hj => ?_⟩
    by_cases hji : j = i
    · subst hji
      exact hg.wpOp hi hc ⟨.inr (.inr (hup a w hc)), H⟩
    · have hm := ready_mono hj hji
      cases fuel with
      | zero =>
        rw [H.1] at hm
        cases hm
      | succ fuel =>
        obtain ⟨hjun, oj, hoj, hall⟩ := mem_ready.1 hj
        have hnot : ∀ e ∈ oj.after, Region.binds md e = true → e.on ≠ i := fun e he hb heq => by
          have h1 := hall e he hb
          have h0 := (mem_ready.1 hr).1
          rw [heq] at h1
          rcases Nat.lt_or_ge i listed.size with h' | h'
          · simp [h'] at h0 h1; rw [h0] at h1; cases h1
          · simp [Array.getElem?_eq_none h'] at h1
        have hnl : ¬ late.contains j = true := fun hc => by
          have h1 := (List.all_eq_true.1 hl) j (by simpa using hc)
          rw [hoj] at h1
          simp only [Array.any_eq_true, Bool.and_eq_true, beq_iff_eq] at h1
          obtain ⟨k, hk, hb, he⟩ := h1
          exact hnot _ (Array.getElem_mem hk) hb he
        have h2 := wpOp_put (oi := standIn oi v) (v := v) hoj (standIn_apart (hfree j oj hoj hji hjun hnot)) (fun cs b h => by cases h) (fun cs b => Region.noSelect_spec hs j oj cs b hoj) hQ (standIn_yields oi v a) (H.2 j hm)
        have hfree' : ∀ k ok, ops[k]? = some ok → k ≠ i → (listed.setIfInBounds j true).getD k true = false →
            (∀ e ∈ ok.after, Region.binds md e = true → e.on ≠ i) → oi.apart ops ok = true := fun k ok hk hki hun hno => by
          refine hfree k ok hk hki ?_ hno
          by_cases hjk : j = k
          · subst hjk; exact hjun
          · rw [getD_set_ne true hjk] at hun; exact hun
        have hnj : late.contains j = false := by simpa using hnl
        refine wpOp_mono (fun a' w' h3 => ?_) h2
        have hc' := hdn a' w' ((h3.2.1.resolve_left (by rw [anyLate_set hn hli]; decide)).resolve_left hnl)
        refine ⟨.inr (.inr hc'), wpAnyE_first hi hs hl hli hQ hg hdn hup fuel (listed.setIfInBounds j true) a' w' (anyLate_set hn hnj) hfree' (ready_mono hr (Ne.symm hji)) hc' ?_⟩
        rw [Array.setIfInBounds_comm _ _ hji]
        exact h3.2.2

/-- A load is taken first. -/
theorem wpAnyE_take {i : Nat} {oi : Oper} {v : Value} {fuel : Nat} {listed : Array Bool} {a : Act} {w : World} (hi : ops[i]? = some oi) (hs : Region.noSelect ops = true) (hl : waits md ops late i = true) (hli : late.contains i = false) (hn : anyLate late listed = false)
    (hf : Region.free md ops listed i = true) (hr : (Region.ready md ops listed).contains i = true)
    (hQ : ∀ c a w, Q (.panic c) (a.put oi.dst v) w → Q (.panic c) a w) (hg : Gives P ops C oi v) (hdn : ∀ a w, C (a.put oi.dst v) w → C a w) (hup : ∀ a w, C a w → C (a.put oi.dst v) w)
    (hc : C a w) (h : wpAnyE P md ops Q C late fuel (listed.setIfInBounds i true) (a.put oi.dst v) w) : wpAnyE P md ops Q C late (fuel + 1) listed a w :=
  wpAnyE_first hi hs hl hli hQ hg hdn hup fuel listed a w hn (Region.free_spec hi hf) (by simpa using hr) hc h

theorem anyLate_eq {listed : Array Bool} {j : Nat} (hj : late.contains j = false) : anyLate late (listed.setIfInBounds j true) = anyLate late listed := by
  unfold anyLate
  rw [Bool.eq_iff_iff, List.any_eq_true, List.any_eq_true]
  have hne : ∀ k, k ∈ late → j ≠ k := fun k hk e => by
    subst e
    rw [List.contains_eq_mem, decide_eq_false_iff_not] at hj
    exact hj hk
  constructor
  · rintro ⟨k, hk, h⟩
    rw [getD_set_ne false (hne k hk)] at h
    exact ⟨k, hk, h⟩
  · rintro ⟨k, hk, h⟩
    exact ⟨k, hk, by rw [getD_set_ne false (hne k hk)]; exact h⟩
theorem anyLate_mono {listed : Array Bool} {j : Nat} (h : anyLate late listed = true) : anyLate late (listed.setIfInBounds j true) = true := by
  unfold anyLate at *
  rw [List.any_eq_true] at *
  obtain ⟨k, hk, h1⟩ := h
  exact ⟨k, hk, getD_set_true h1⟩
theorem anyLate_new {listed : Array Bool} {j : Nat} (h : late.contains j = true) (hj : listed.getD j true = false) : anyLate late (listed.setIfInBounds j true) = true := by
  unfold anyLate
  rw [List.any_eq_true]
  refine ⟨j, by simpa using h, ?_⟩
  have hlt : j < listed.size := by
    rcases Nat.lt_or_ge j listed.size with h' | h'
    · exact h'
    · simp [Array.getElem?_eq_none h'] at hj
  simp [hlt]

theorem wpAnyE_pureFirst {i : Nat} {oi : Oper} {v : Value} (hi : ops[i]? = some oi) (hs : Region.noSelect ops = true) (hli : late.contains i = false)
    (hQ : ∀ c a w, Q (.panic c) (a.put oi.dst v) w → Q (.panic c) a w) (hdn : ∀ a w, C (a.put oi.dst v) w → C a w) (hup : ∀ a w, C a w → C (a.put oi.dst v) w) :
    ∀ (fuel : Nat) (listed : Array Bool) (a : Act) (w : World), (anyLate late listed = true ∨ C a w) →
      (∀ j oj, ops[j]? = some oj → j ≠ i → listed.getD j true = false → (∀ e ∈ oj.after, Region.binds md e = true → e.on ≠ i) → oi.apart ops oj = true) →
      i ∈ Region.ready md ops listed → Yields P ops oi v a →
      wpAnyE P md ops Q C late fuel (listed.setIfInBounds i true) (a.put oi.dst v) w → wpAnyE P md ops Q C late (fuel + 1) listed a w
  | fuel, listed, a, w, hI, hfree, hr, hy, H => by
    have hsel := Region.noSelect_spec hs
    refine ⟨fun h => (by rw [h] at hr; cases hr), fun j hj => ?_⟩
    by_cases hji : j = i
    · subst hji
      refine hy.wpOp hi ⟨?_, H⟩
      rcases hI with h | h
      · exact .inl h
      · exact .inr (.inr (hup a w h))
    · have hm := ready_mono hj hji
      cases fuel with
      | zero =>
        rw [H.1] at hm
        cases hm
      | succ fuel =>
        obtain ⟨hjun, oj, hoj, hall⟩ := mem_ready.1 hj
        have hnot : ∀ e ∈ oj.after, Region.binds md e = true → e.on ≠ i := fun e he hb heq => by
          have h1 := hall e he hb
          have h0 := (mem_ready.1 hr).1
          rw [heq] at h1
          rcases Nat.lt_or_ge i listed.size with h' | h'
          · simp [h'] at h0 h1; rw [h0] at h1; cases h1
          · simp [Array.getElem?_eq_none h'] at h1
        have h2 := wpOp_put hoj (hfree j oj hoj hji hjun hnot) (fun cs b => hsel i oi cs b hi) (fun cs b => hsel j oj cs b hoj) hQ hy (H.2 j hm)
        have hfree' : ∀ k ok, ops[k]? = some ok → k ≠ i → (listed.setIfInBounds j true).getD k true = false →
            (∀ e ∈ ok.after, Region.binds md e = true → e.on ≠ i) → oi.apart ops ok = true := fun k ok hk hki hun hno => by
          refine hfree k ok hk hki ?_ hno
          by_cases hjk : j = k
          · subst hjk; exact hjun
          · rw [getD_set_ne true hjk] at hun; exact hun
        refine wpOp_mono (fun a' w' h3 => ?_) h2
        have hob : anyLate late listed = true ∨ late.contains j = true ∨ C a' w' := by
          rcases h3.2.1 with h | h | h
          · rw [anyLate_eq hli] at h; exact .inl h
          · exact .inr (.inl h)
          · exact .inr (.inr (hdn a' w' h))
        have hI' : anyLate late (listed.setIfInBounds j true) = true ∨ C a' w' := by
          rcases hob with h | h | h
          · exact .inl (anyLate_mono h)
          · exact .inl (anyLate_new h hjun)
          · exact .inr h
        refine ⟨hob, wpAnyE_pureFirst hi hs hli hQ hdn hup fuel (listed.setIfInBounds j true) a' w' hI' hfree' (ready_mono hr (Ne.symm hji)) h3.1 ?_⟩
        rw [Array.setIfInBounds_comm _ _ hji]
        exact h3.2.2
/-- An operation that asks the world nothing is taken first. -/
theorem wpAnyE_pure {i : Nat} {oi : Oper} {v : Value} {fuel : Nat} {listed : Array Bool} {a : Act} {w : World} (hi : ops[i]? = some oi) (hs : Region.noSelect ops = true) (hli : late.contains i = false)
    (hf : Region.free md ops listed i = true) (hr : (Region.ready md ops listed).contains i = true)
    (hQ : ∀ c a w, Q (.panic c) (a.put oi.dst v) w → Q (.panic c) a w) (hdn : ∀ a w, C (a.put oi.dst v) w → C a w) (hup : ∀ a w, C a w → C (a.put oi.dst v) w)
    (hI : anyLate late listed = true ∨ C a w) (hy : Yields P ops oi v a) (h : wpAnyE P md ops Q C late fuel (listed.setIfInBounds i true) (a.put oi.dst v) w) : wpAnyE P md ops Q C late (fuel + 1) listed a w :=
  wpAnyE_pureFirst hi hs hli hQ hdn hup fuel listed a w hI (Region.free_spec hi hf) (by simpa using hr) hy h

/-- These may come up. -/
theorem wpAnyE_some {rs : List Nat} {fuel : Nat} {listed : Array Bool} {a : Act} {w : World} (hr : Region.ready md ops listed = rs) (h0 : rs ≠ [])
    (h : ∀ i ∈ rs, wpOp P ops Q i (fun a' w' => (anyLate late listed = true ∨ late.contains i = true ∨ C a' w') ∧ wpAnyE P md ops Q C late fuel (listed.setIfInBounds i true) a' w') a w) :
    wpAnyE P md ops Q C late (fuel + 1) listed a w := ⟨fun e => absurd (hr.symm.trans e) h0, fun i hi => h i (hr ▸ hi)⟩
theorem wpAnyE_done {listed : Array Bool} {a : Act} {w : World} (hr : Region.ready md ops listed = []) (h : Q .normal a w) : ∀ fuel, wpAnyE P md ops Q C late fuel listed a w
  | 0 => ⟨hr, h⟩
  | _ + 1 => ⟨fun _ => h, by rw [hr]; simp⟩
end
end Go.Proofs.YtdkaacjeogifdaaGreat.H

/-
  The document's own Do, where it does not refuse.
-/
namespace Go.Proofs.YtdkaacjeogifdaaGreat.H
open Go.RowKit
open Go.Proofs.YtdkaacjeogifdaaGreat.Su (wi erP)
open Go.Proofs.YtdkaacjeogifdaaGreat.Dk (Box DS RD refA set6 Rd fuseI)
theorem rd_box {u u' : World} {g : Nat} {cur : Array Value} {t : TypeId} {xs : List UInt8} (h : Rd u (some ⟨g, 0, none⟩) xs) (b : Box u g cur t) (b' : Box u' g cur t) : Rd u' (some ⟨g, 0, none⟩) xs := fun hp => by
  obtain ⟨p, o, e, hc⟩ := h hp
  injection e with e
  injection e with e1 e2
  subst e1 e2
  exact ⟨g, 0, rfl, fun j hj => (World.cell?_of_block (a := ⟨g, 0 + j, none⟩) (b'.trans b.symm)).trans (hc j hj)⟩

set_option maxRecDepth 100000 in
set_option maxHeartbeats 4000000 in
theorem rdo_yes0 {w : World} {Q : Nat → Prop} {a1 a2 : Option Addr} {n1 c1 n2 c2 : Nat} {D : DS} (hR : RD w Q a1 a2 n1 c1 n2 c2 D) (hQ : ∀ i, w.heap.size ≤ i → Q i) (a : Option Addr) (n c : Nat) (L : List ImD) (b e q t : Int) (sb : List UInt8) (hl : L.length = n) (hn : n ≤ 1000) (hI : CellsI w a (L.map (·.1))) (hD : ∀ p ∈ L, Rd w p.1.2.1 p.2 ∧ p.2.length = p.1.2.2.1) (hlim : D.uf.length ≤ 800000 ∧ D.n ≤ 800000)
    (hsb : Su.putSuper b e q t = some sb) (hfit : (L.map (·.1)).all (fits D.nb) = true) :
    Calls Tryz.prog 16 #[.agg (refA a1 a2 n1 c1 n2 c2 D), .slice a n c, .agg #[.int .i64 b, .int .i64 e, .int .i64 q, .int .i64 t], .int .i64 0] w fun r w' => ∃ a1' a2' c1' n2' c2', r = .returned (.tuple #[.agg (refA a1' a2' n1 c1' n2' c2' (doD (pl L) 0 sb D).1), .int .i64 ((doD (pl L) 0 sb D).2 : Int)]) ∧ RD w' Q a1' a2' n1 c1' n2' c2' (doD (pl L) 0 sb D).1 ∧ Below w.heap.size w w' := by
  have hn1 := hR.ns
  have x0 := ((Box.new w #[.slice a1 n1 c1, .slice a2 n2 c2, .int .i64 (D.n : Int), .bool D.gone, .int .i64 (fuseI D.arm), .int .i64 (fuseI D.fail)] 41).alloc (.cells #[.int .i64 b, .int .i64 e, .int .i64 q, .int .i64 t] 28)).alloc (.cells #[.slice none 0 0, .slice none 0 0, .int .i64 0, .bool false, .int .i64 0, .int .i64 0] 41)
  have s0 := (Box.new (w.alloc (.cells #[.slice a1 n1 c1, .slice a2 n2 c2, .int .i64 (D.n : Int), .bool D.gone, .int .i64 (fuseI D.arm), .int .i64 (fuseI D.fail)] 41)) #[.int .i64 b, .int .i64 e, .int .i64 q, .int .i64 t] 28).alloc (.cells #[.slice none 0 0, .slice none 0 0, .int .i64 0, .bool false, .int .i64 0, .int .i64 0] 41)
  have y0 := Box.new ((w.alloc (.cells #[.slice a1 n1 c1, .slice a2 n2 c2, .int .i64 (D.n : Int), .bool D.gone, .int .i64 (fuseI D.arm), .int .i64 (fuseI D.fail)] 41)).alloc (.cells #[.int .i64 b, .int .i64 e, .int .i64 q, .int .i64 t] 28)) #[.slice none 0 0, .slice none 0 0, .int .i64 0, .bool false, .int .i64 0, .int .i64 0] 41
  have B0 := (((Below.refl w.heap.size w).alloc (Nat.le_refl _) (.cells #[.slice a1 n1 c1, .slice a2 n2 c2, .int .i64 (D.n : Int), .bool D.gone, .int .i64 (fuseI D.arm), .int .i64 (fuseI D.fail)] 41)).alloc (by simp) (.cells #[.int .i64 b, .int .i64 e, .int .i64 q, .int .i64 t] 28)).alloc (by simp; omega) (.cells #[.slice none 0 0, .slice none 0 0, .int .i64 0, .bool false, .int .i64 0, .int .i64 0] 41)
  have sz : ((w.alloc (.cells #[.slice a1 n1 c1, .slice a2 n2 c2, .int .i64 (D.n : Int), .bool D.gone, .int .i64 (fuseI D.arm), .int .i64 (fuseI D.fail)] 41)).alloc (.cells #[.int .i64 b, .int .i64 e, .int .i64 q, .int .i64 t] 28)).heap.size = w.heap.size + 2 := by simp
  have sz1 : (w.alloc (.cells #[.slice a1 n1 c1, .slice a2 n2 c2, .int .i64 (D.n : Int), .bool D.gone, .int .i64 (fuseI D.arm), .int .i64 (fuseI D.fail)] 41)).heap.size = w.heap.size + 1 := by simp
  rw [sz] at y0
  rw [sz1] at s0
  clear sz sz1
  have k0 := s0.cell 0
  have k1 := s0.cell 1
  have k2 := s0.cell 2
  have k3 := s0.cell 3
  simp only [List.getElem?_toArray, List.getElem?_cons_zero, List.getElem?_cons_succ] at k0 k1 k2 k3
  have cP := Su.refPutSuper_at b e q t (((w.alloc (.cells #[.slice a1 n1 c1, .slice a2 n2 c2, .int .i64 (D.n : Int), .bool D.gone, .int .i64 (fuseI D.arm), .int .i64 (fuseI D.fail)] 41)).alloc (.cells #[.int .i64 b, .int .i64 e, .int .i64 q, .int .i64 t] 28)).alloc (.cells #[.slice none 0 0, .slice none 0 0, .int .i64 0, .bool false, .int .i64 0, .int .i64 0] 41))
  have hsl : sb.length = 4096 := by
    unfold Su.putSuper at hsb
    split at hsb
    · injection hsb with h
      rw [← h, Su.superB_length]
    · cases hsb
  rw [hsb] at cP
  have he : erP (some sb) = 0 := rfl
  have HR : Hid (RD w Q a1 a2 n1 c1 n2 c2 D) := hR
  have HQ : Hid (∀ i, w.heap.size ≤ i → Q i) := hQ
  have HI : Hid (CellsI w a (L.map (·.1))) := hI
  have HD : Hid (∀ p ∈ L, Rd w p.1.2.1 p.2 ∧ p.2.length = p.1.2.2.1) := hD
  have HL : Hid (L.length = n) := hl
  have HLim : Hid (D.uf.length ≤ 800000 ∧ D.n ≤ 800000) := hlim
  have HF : Hid ((L.map (·.1)).all (fits n1) = true) := by rw [hn1]; exact hfit
  have hnb := hR.ok.hi
  rw [← hn1] at hnb
  clear hR hQ hI hD hl hlim hfit s0 hsb hn1
  unfold refA
  go_enter Tryz.func16, Tryz.ntmps16
  go_wp2_with fail
  refine Calls.mono cP ?_
  rintro r u1 ⟨v, rfl, hrow, b1⟩
  rw [he]
  obtain ⟨gb, cb, rfl, hgb, hgbl, rd⟩ := owns4096 hrow hsl
  obtain ⟨_, cur, hbx⟩ := Rc.owns_block hrow gb rfl
  have B1 := B0.trans (b1.mono B0.size)
  have S1 : Hid (DyS w u1 Q gb cur a1 a2 n1 c1 n2 c2 D) := ⟨x0.below b1, y0.below b1, HR.out.below B1, hbx, B1⟩
  have HRS : Hid (Rd u1 (some ⟨gb, 0, none⟩) sb) := rd
  have HBX : Hid (Box u1 gb cur 5) := hbx
  clear k0 k1 k2 k3 cP hrow b1 x0 y0 B0 he rd hbx hgb hgbl
  go_wp2_with fail
  go_loopw [12] (fun i u => ∃ k : Nat, k ≤ n ∧ i = .int .i64 (k : Int) ∧ DyS w u Q gb cur a1 a2 n1 c1 n2 c2 D) (fun i _ => n - (intOf i).toNat)
  case atStart => exact ⟨0, Nat.zero_le _, rfl, S1.out⟩
  case round =>
    obtain ⟨k, hk, rfl, hS⟩ := hrel
    have HS : Hid (DyS w wr Q gb cur a1 a2 n1 c1 n2 c2 D) := hS
    by_cases hlt : k < n
    · have hki : (k : Int) < (n : Int) := by omega
      have hk0 : (0 : Int) ≤ (k : Int) := by omega
      have hkl : k < (L.map (·.1)).length := by rw [List.length_map, HL.out]; exact hlt
      obtain ⟨bb, o, rfl, hcc⟩ := HI.out (by omega)
      obtain ⟨z0, z1⟩ := hcc k hkl
      have lb := block_lt_of_cell z0
      have x0 := (hS.bel.cell (p := ⟨bb, o + k * 2, none⟩) lb).trans z0
      have x1 := (hS.bel.cell (p := ⟨bb, o + k * 2 + 1, none⟩) lb).trans z1
      have d := hS.d
      unfold refA at d
      have d0 := d.cell 0
      simp only [List.getElem?_toArray, List.getElem?_cons_zero] at d0
      have hf := List.all_eq_true.1 HF.out _ (List.getElem_mem hkl)
      generalize ((L.map (·.1))[k]'hkl) = P at x0 x1 hf
      obtain ⟨pb, pa, pn, pc⟩ := P
      dsimp only at x0 x1
      clear hcc z0 z1 lb hS d
      simp only [fits, wi, Bool.and_eq_true, decide_eq_true_eq] at hf
      obtain ⟨⟨f1, f2⟩, rfl⟩ := hf
      have e1 : decide (pb < 2) = false := decide_eq_false (by omega)
      have e2 : decide ((n1 : Int) ≤ pb) = false := decide_eq_false (by omega)
      go_wp2_with fail
      go_quiet (fail)
      have HS3 : Hid (DyS w (wr.drewN nq) Q gb cur a1 a2 n1 c1 n2 c2 D) := HS.out.below (below_drewN (Below.refl _ _) nq)
      clear x0 x1 d0
      go_wp2_with fail
      go_roundw
      case rel => exact ⟨k + 1, by omega, by push_cast; rfl, HS3.out⟩
      case measure => simp [intOf]; omega
    · have hke : k = n := by omega
      subst hke
      clear hS hlt hk S1
      go_wp2_with fail
      go_loopw [13] (fun i u => ∃ (j : Nat) (E : DS) (a2' : Option Addr) (n2' c2' : Nat), j ≤ k ∧ i = .int .i64 (j : Int) ∧ DyS w u Q gb cur a1 a2' n1 c1 n2' c2' E ∧ layD (pl L) D = layD ((pl L).drop j) E ∧ E.uf.length ≤ D.uf.length + j ∧ E.n ≤ D.n + j) (fun i _ => k - (intOf i).toNat)
      case atStart => exact ⟨0, D, a2, n2, c2, Nat.zero_le _, rfl, HS.out, by simp, by omega, by omega⟩
      case round =>
        clear HS
        obtain ⟨j, E, a2', n2', c2', hj, rfl, hS, hlay, hu, hn2⟩ := hrel
        have HS : Hid (DyS w wr Q gb cur a1 a2' n1 c1 n2' c2' E) := hS
        have HLay : Hid (layD (pl L) D = layD ((pl L).drop j) E) := hlay
        have HB : Hid (E.uf.length ≤ D.uf.length + j ∧ E.n ≤ D.n + j) := ⟨hu, hn2⟩
        clear hlay hu hn2
        by_cases hlt : j < k
        · have hki : (j : Int) < (k : Int) := by omega
          have hk0 : (0 : Int) ≤ (j : Int) := by omega
          have hjl : j < L.length := by rw [HL.out]; exact hlt
          obtain ⟨bb, o, rfl, hcc⟩ := HI.out (by rw [List.length_map]; omega)
          obtain ⟨z0, z1⟩ := hcc j (by rw [List.length_map]; exact hjl)
          have lb := block_lt_of_cell z0
          have x0 := (hS.bel.cell (p := ⟨bb, o + j * 2, none⟩) lb).trans z0
          have x1 := (hS.bel.cell (p := ⟨bb, o + j * 2 + 1, none⟩) lb).trans z1
          obtain ⟨r1, r2⟩ := HD.out L[j] (List.getElem_mem hjl)
          have hdrop : Hid ((pl L).drop j = (L[j].1.1, L[j].2) :: (pl L).drop (j + 1)) := by
            show _ = _
            have h1 : j < (pl L).length := by simp [pl]; exact hjl
            rw [List.drop_eq_getElem_cons h1]
            simp [pl]
          simp only [List.getElem_map] at x0 x1
          have hf := List.all_eq_true.1 HF.out L[j].1 (List.mem_map_of_mem (List.getElem_mem hjl))
          generalize (L[j]'hjl) = P at x0 x1 r1 r2 hdrop hf
          obtain ⟨⟨pb, pa, pn, pc⟩, xs⟩ := P
          dsimp only at x0 x1 r1 r2 hdrop
          subst r2
          simp only [fits, wi, Bool.and_eq_true, decide_eq_true_eq] at hf
          have hx := hf.2
          rw [hx] at x1
          clear hf
          have d := hS.d
          unfold refA at d
          obtain ⟨p0, p1, p2, p3, p4, p5⟩ := d.all6
          have bdr := (Below.refl wr.heap.size wr).drew
          have cW := Dk.rwriteD (hS.r.below bdr) (fun i hi => HQ.out i (Nat.le_trans hS.bel.size hi)) (by have := HB.out; have := HLim.out; omega) (by have := HB.out; have := HLim.out; omega) pb pa 4096 pc xs hx (by omega) ((r1.below hS.bel (Nat.le_refl _)).below bdr (Nat.le_refl _))
          unfold refA at cW
          have HCS : Hid (∀ q ∈ [((⟨bb, o + j * 2, none⟩ : Addr), Value.int .i64 pb), (⟨bb, o + j * 2 + 1, none⟩, .slice pa 4096 pc), (⟨w.heap.size, 0, none⟩, .slice a1 n1 c1), (⟨w.heap.size, 1, none⟩, .slice a2' n2' c2'), (⟨w.heap.size, 2, none⟩, .int .i64 (E.n : Int)), (⟨w.heap.size, 3, none⟩, .bool E.gone), (⟨w.heap.size, 4, none⟩, .int .i64 (fuseI E.arm)), (⟨w.heap.size, 5, none⟩, .int .i64 (fuseI E.fail))], (World.drew wr).cell? q.1 = some q.2) := fun q hq => by
            simp only [List.mem_cons, List.not_mem_nil, or_false] at hq
            rcases hq with rfl | rfl | rfl | rfl | rfl | rfl | rfl | rfl
            · exact x0
            · exact x1
            · exact p0
            · exact p1
            · exact p2
            · exact p3
            · exact p4
            · exact p5
          clear hcc z0 z1 lb hS d r1 p0 p1 p2 p3 p4 p5 hx x0 x1
          go_upto_region 12 with fail
          refine wp_region_any (by kernel_rfl) ?_
          change wpAny _ _ _ _ _ _ _ (World.drew _)
          refine wpAny_take (i := 1) (v := ?_) rfl (by kernel_rfl) (by kernel_rfl) (by kernel_rfl) (fun _ _ _ h => h) (Or.inl ⟨by rfl, ?_⟩) ?_
          rotate_left
          · intro w
            go_simp
            with_reducible rfl
          simp only [Act.put, List.setIfInBounds_toArray, List.set_cons_zero, List.set_cons_succ, List.getElem_toArray, List.getElem_cons_zero, List.getElem_cons_succ]
          refine wpAny_take (i := 2) (v := ?_) rfl (by kernel_rfl) (by kernel_rfl) (by kernel_rfl) (fun _ _ _ h => h) (Or.inl ⟨by rfl, ?_⟩) ?_
          rotate_left
          · intro w
            go_simp
            with_reducible rfl
          simp only [Act.put, List.setIfInBounds_toArray, List.set_cons_zero, List.set_cons_succ, List.getElem_toArray, List.getElem_cons_zero, List.getElem_cons_succ]
          refine wpAny_take (i := 3) (v := ?_) rfl (by kernel_rfl) (by kernel_rfl) (by kernel_rfl) (fun _ _ _ h => h) (Or.inl ⟨by rfl, ?_⟩) ?_
          rotate_left
          · intro w
            go_simp
            with_reducible rfl
          simp only [Act.put, List.setIfInBounds_toArray, List.set_cons_zero, List.set_cons_succ, List.getElem_toArray, List.getElem_cons_zero, List.getElem_cons_succ]
          refine wpAny_take (i := 4) (v := ?_) rfl (by kernel_rfl) (by kernel_rfl) (by kernel_rfl) (fun _ _ _ h => h) (Or.inl ⟨by rfl, ?_⟩) ?_
          rotate_left
          · intro w
            go_simp
            with_reducible rfl
          simp only [Act.put, List.setIfInBounds_toArray, List.set_cons_zero, List.set_cons_succ, List.getElem_toArray, List.getElem_cons_zero, List.getElem_cons_succ]
          refine wpAny_take (i := 6) (v := ?_) rfl (by kernel_rfl) (by kernel_rfl) (by kernel_rfl) (fun _ _ _ h => h) (Or.inl ⟨by rfl, ?_⟩) ?_
          rotate_left
          · intro w
            go_simp
            with_reducible rfl
          simp only [Act.put, List.setIfInBounds_toArray, List.set_cons_zero, List.set_cons_succ, List.getElem_toArray, List.getElem_cons_zero, List.getElem_cons_succ]
          refine wpAny_take (i := 7) (v := ?_) rfl (by kernel_rfl) (by kernel_rfl) (by kernel_rfl) (fun _ _ _ h => h) (Or.inl ⟨by rfl, ?_⟩) ?_
          rotate_left
          · intro w
            go_simp
            with_reducible rfl
          simp only [Act.put, List.setIfInBounds_toArray, List.set_cons_zero, List.set_cons_succ, List.getElem_toArray, List.getElem_cons_zero, List.getElem_cons_succ]
          refine wpAny_take (i := 8) (v := ?_) rfl (by kernel_rfl) (by kernel_rfl) (by kernel_rfl) (fun _ _ _ h => h) (Or.inl ⟨by rfl, ?_⟩) ?_
          rotate_left
          · intro w
            go_simp
            with_reducible rfl
          simp only [Act.put, List.setIfInBounds_toArray, List.set_cons_zero, List.set_cons_succ, List.getElem_toArray, List.getElem_cons_zero, List.getElem_cons_succ]
          refine wpAny_take (i := 9) (v := ?_) rfl (by kernel_rfl) (by kernel_rfl) (by kernel_rfl) (fun _ _ _ h => h) (Or.inl ⟨by rfl, ?_⟩) ?_
          rotate_left
          · intro w
            go_simp
            with_reducible rfl
          simp only [Act.put, List.setIfInBounds_toArray, List.set_cons_zero, List.set_cons_succ, List.getElem_toArray, List.getElem_cons_zero, List.getElem_cons_succ]
          refine wpAny_of_E (C := Dk.SlotsCells [(4, .pointer (some ⟨w.heap.size, 0, none⟩)), (74, .pointer (some ⟨bb, o + j * 2, none⟩)), (79, .pointer (some ⟨bb, o + j * 2 + 1, none⟩))] [((⟨bb, o + j * 2, none⟩ : Addr), Value.int .i64 pb), (⟨bb, o + j * 2 + 1, none⟩, .slice pa 4096 pc), (⟨w.heap.size, 0, none⟩, .slice a1 n1 c1), (⟨w.heap.size, 1, none⟩, .slice a2' n2' c2'), (⟨w.heap.size, 2, none⟩, .int .i64 (E.n : Int)), (⟨w.heap.size, 3, none⟩, .bool E.gone), (⟨w.heap.size, 4, none⟩, .int .i64 (fuseI E.arm)), (⟨w.heap.size, 5, none⟩, .int .i64 (fuseI E.fail))]) (late := [15]) _ _ _ _ ?_
          refine wpAnyE_take (i := 5) (v := .int .i64 pb) rfl (by kernel_rfl) (by kernel_rfl) (by kernel_rfl) (by kernel_rfl) (by kernel_rfl) (by kernel_rfl) (fun _ _ _ h => h) ?_ (fun fr u h => (Dk.SlotsCells.put 75 _ (by rfl)).1 h) (fun fr u h => (Dk.SlotsCells.put 75 _ (by rfl)).2 h) ?_ ?_
          · intro fr u hh
            obtain ⟨e1, e2⟩ := hh.load (s := 74) (p := ⟨bb, o + j * 2, none⟩) (v := .int .i64 pb) (by simp) (by simp)
            exact ⟨rfl, by simp [execOp, e1, go_sem, e2]⟩
          · exact ⟨fun p hp => by simp at hp; rcases hp with rfl | rfl | rfl <;> rfl, HCS.out⟩
          simp only [Act.put, List.setIfInBounds_toArray, List.set_cons_zero, List.set_cons_succ, List.getElem_toArray, List.getElem_cons_zero, List.getElem_cons_succ]
          refine wpAnyE_take (i := 10) (v := .slice pa 4096 pc) rfl (by kernel_rfl) (by kernel_rfl) (by kernel_rfl) (by kernel_rfl) (by kernel_rfl) (by kernel_rfl) (fun _ _ _ h => h) ?_ (fun fr u h => (Dk.SlotsCells.put 80 _ (by rfl)).1 h) (fun fr u h => (Dk.SlotsCells.put 80 _ (by rfl)).2 h) ?_ ?_
          · intro fr u hh
            obtain ⟨e1, e2⟩ := hh.load (s := 79) (p := ⟨bb, o + j * 2 + 1, none⟩) (v := .slice pa 4096 pc) (by simp) (by simp)
            exact ⟨rfl, by simp [execOp, e1, go_sem, e2]⟩
          · exact ⟨fun p hp => by simp at hp; rcases hp with rfl | rfl | rfl <;> rfl, HCS.out⟩
          simp only [Act.put, List.setIfInBounds_toArray, List.set_cons_zero, List.set_cons_succ, List.getElem_toArray, List.getElem_cons_zero, List.getElem_cons_succ]
          refine wpAnyE_take (i := 0) (v := .agg #[.slice a1 n1 c1, .slice a2' n2' c2', .int .i64 (E.n : Int), .bool E.gone, .int .i64 (fuseI E.arm), .int .i64 (fuseI E.fail)]) rfl (by kernel_rfl) (by kernel_rfl) (by kernel_rfl) (by kernel_rfl) (by kernel_rfl) (by kernel_rfl) (fun _ _ _ h => h) ?_ (fun fr u h => (Dk.SlotsCells.put 70 _ (by rfl)).1 h) (fun fr u h => (Dk.SlotsCells.put 70 _ (by rfl)).2 h) ?_ ?_
          · intro fr u hh
            have e1 := hh.val (s := 4) (v := .pointer (some ⟨w.heap.size, 0, none⟩)) (by simp)
            have m0 := hh.2 (⟨w.heap.size, 0, none⟩, .slice a1 n1 c1) (by simp)
            have m1 := hh.2 (⟨w.heap.size, 1, none⟩, .slice a2' n2' c2') (by simp)
            have m2 := hh.2 (⟨w.heap.size, 2, none⟩, .int .i64 (E.n : Int)) (by simp)
            have m3 := hh.2 (⟨w.heap.size, 3, none⟩, .bool E.gone) (by simp)
            have m4 := hh.2 (⟨w.heap.size, 4, none⟩, .int .i64 (fuseI E.arm)) (by simp)
            have m5 := hh.2 (⟨w.heap.size, 5, none⟩, .int .i64 (fuseI E.fail)) (by simp)
            dsimp only at m0 m1 m2 m3 m4 m5
            refine ⟨rfl, ?_⟩
            simp [execOp, e1, go_sem, m0, m1, m2, m3, m4, m5]
          · exact ⟨fun p hp => by simp at hp; rcases hp with rfl | rfl | rfl <;> rfl, HCS.out⟩
          simp only [Act.put, List.setIfInBounds_toArray, List.set_cons_zero, List.set_cons_succ, List.getElem_toArray, List.getElem_cons_zero]
          refine wpAnyE_some (rs := [11]) (by kernel_rfl) (by simp) (fun i hi => ?_)
          simp only [List.mem_cons, List.not_mem_nil, or_false] at hi
          subst hi
          refine wpOp_step rfl (fun K hK => ?_)
          go_simp
          refine Calls.mono cW ?_
          rintro r w6 ⟨a6, n6, c6, rfl, R6, b6⟩
          have HC1 : Hid (∀ q ∈ [((⟨bb, o + j * 2, none⟩ : Addr), Value.int .i64 pb), (⟨bb, o + j * 2 + 1, none⟩, .slice pa 4096 pc), (⟨w.heap.size, 0, none⟩, .slice a1 n1 c1), (⟨w.heap.size, 1, none⟩, .slice a2' n2' c2'), (⟨w.heap.size, 2, none⟩, .int .i64 (E.n : Int)), (⟨w.heap.size, 3, none⟩, .bool E.gone), (⟨w.heap.size, 4, none⟩, .int .i64 (fuseI E.arm)), (⟨w.heap.size, 5, none⟩, .int .i64 (fuseI E.fail))], w6.cell? q.1 = some q.2) := fun q hq => (b6.cell (p := q.1) (block_lt_of_cell (HCS.out q hq))).trans (HCS.out q hq)
          refine hK _ _ ⟨.inr (.inr ⟨fun p hp => by simp at hp; rcases hp with rfl | rfl | rfl <;> rfl, HC1.out⟩), ?_⟩
          clear hK K
          refine wpAnyE_pure (i := 12) (v := ?_) rfl (by kernel_rfl) (by kernel_rfl) (by kernel_rfl) (by kernel_rfl) (fun _ _ _ h => h) (fun fr u h => (Dk.SlotsCells.put 69 _ (by rfl)).1 h) (fun fr u h => (Dk.SlotsCells.put 69 _ (by rfl)).2 h) (.inr ⟨fun p hp => by simp at hp; rcases hp with rfl | rfl | rfl <;> rfl, HC1.out⟩) (Or.inl ⟨by rfl, ?_⟩) ?_
          rotate_left
          · intro w
            go_simp
            with_reducible rfl
          simp only [Act.put, List.setIfInBounds_toArray, List.set_cons_zero, List.set_cons_succ, List.getElem_toArray, List.getElem_cons_zero, List.getElem_cons_succ]
          refine wpAnyE_pure (i := 13) (v := ?_) rfl (by kernel_rfl) (by kernel_rfl) (by kernel_rfl) (by kernel_rfl) (fun _ _ _ h => h) (fun fr u h => (Dk.SlotsCells.put 82 _ (by rfl)).1 h) (fun fr u h => (Dk.SlotsCells.put 82 _ (by rfl)).2 h) (.inr ⟨fun p hp => by simp at hp; rcases hp with rfl | rfl | rfl <;> rfl, HC1.out⟩) (Or.inl ⟨by rfl, ?_⟩) ?_
          rotate_left
          · intro w
            go_simp
            with_reducible rfl
          simp only [Act.put, List.setIfInBounds_toArray, List.set_cons_zero, List.set_cons_succ, List.getElem_toArray, List.getElem_cons_zero, List.getElem_cons_succ]
          refine wpAnyE_pure (i := 14) (v := ?_) rfl (by kernel_rfl) (by kernel_rfl) (by kernel_rfl) (by kernel_rfl) (fun _ _ _ h => h) (fun fr u h => (Dk.SlotsCells.put 83 _ (by rfl)).1 h) (fun fr u h => (Dk.SlotsCells.put 83 _ (by rfl)).2 h) (.inr ⟨fun p hp => by simp at hp; rcases hp with rfl | rfl | rfl <;> rfl, HC1.out⟩) (Or.inl ⟨by rfl, ?_⟩) ?_
          rotate_left
          · intro w
            go_simp
            with_reducible rfl
          simp only [Act.put, List.setIfInBounds_toArray, List.set_cons_zero, List.set_cons_succ, List.getElem_toArray, List.getElem_cons_zero, List.getElem_cons_succ]
          have S6 := (HS.out.below bdr).below b6
          have d6 := S6.d
          unfold refA at d6
          obtain ⟨p0, p1, p2, p3, p4, p5⟩ := d6.all6
          obtain ⟨g0, g1, g2, g3, g4, g5⟩ := d6.fr6
          have S7 : Hid (DyS w (set6D w6 w.heap.size a1 a6 n1 c1 n6 c6 (E.write pb xs)) Q gb cur a1 a6 n1 c1 n6 c6 (E.write pb xs)) := (HS.out.below bdr).next b6 R6
          clear S6 d6 R6
          refine wpAnyE_some (rs := [15]) (by kernel_rfl) (by simp) (fun i hi => ?_)
          simp only [List.mem_cons, List.not_mem_nil, or_false] at hi
          subst hi
          refine wpOp_step rfl (fun K hK => ?_)
          go_simp
          refine hK _ _ ⟨.inr (.inl rfl), ?_⟩
          clear hK K
          refine wpAnyE_some (rs := [16]) (by kernel_rfl) (by simp) (fun i hi => ?_)
          simp only [List.mem_cons, List.not_mem_nil, or_false] at hi
          subst hi
          refine wpOp_step rfl (fun K hK => ?_)
          go_simp
          refine hK _ _ ⟨.inl (by kernel_rfl), ?_⟩
          clear hK K
          refine wpAnyE_done (by kernel_rfl) ?_ _
          clear p0 p1 p2 p3 p4 p5 g0 g1 g2 g3 g4 g5 HCS HC1 cW bdr b6
          by_cases hw0 : E.writeE pb xs = 0
          · have hz : ((E.writeE pb xs : Int) != 0) = false := by simp; omega
            have HL2 : Hid (layD (pl L) D = layD ((pl L).drop (j + 1)) (E.write pb xs)) := by
              show _ = _
              rw [HLay.out, hdrop.out]
              conv => lhs; unfold layD
              rw [if_pos hw0]
            have hle := write_le E pb xs
            have HB2 : Hid ((E.write pb xs).uf.length ≤ D.uf.length + (j + 1) ∧ (E.write pb xs).n ≤ D.n + (j + 1)) := ⟨by have := HB.out; omega, by have := HB.out; omega⟩
            clear hle hw0
            go_wp2_with fail
            go_roundw
            case rel => exact ⟨j + 1, E.write pb xs, a6, n6, c6, by omega, by push_cast; rfl, S7.out, HL2.out, HB2.out.1, HB2.out.2⟩
            case measure => simp [intOf]; omega
          · have hne : ((E.writeE pb xs : Int) != 0) = true := by simp; omega
            have hres : Hid (doD (pl L) 0 sb D = (E.write pb xs, E.writeE pb xs)) := by
              show _ = _
              have e : layD (pl L) D = (E.write pb xs, E.writeE pb xs) := by
                rw [HLay.out, hdrop.out]
                conv => lhs; unfold layD
                rw [if_neg hw0]
              unfold doD
              rw [e, if_neg hw0]
            have d7 := S7.out.d
            have o7 := S7.out.o
            unfold set6D set6 refA at d7
            unfold set6D set6 zero6 at o7
            obtain ⟨q0, q1, q2, q3, q4, q5⟩ := d7.all6
            obtain ⟨t0, t1, t2, t3, t4, t5⟩ := o7.all6
            obtain ⟨f0, f1, f2, f3, f4, f5⟩ := o7.fr6
            clear d7
            go_wp2_with fail
            rw [hres.out]
            refine bodyPost_ret (hd := rfl) (hR := ⟨a1, a6, c1, n6, c6, rfl, ?_, ?_⟩) (hr := ?_)
            · simp [results, Tryz.results16, go_sem, *]
            · exact S7.out.r.o49 (Dk.O49.set6 o7 _ _ _ _ _ _)
            · have B7 := S7.out.bel
              unfold set6D set6 at B7
              repeat (refine Below.setCell ?_ (by simp; omega) _)
              exact B7
        · have hje : j = k := by omega
          subst hje
          have hlayE : Hid (layD (pl L) D = (E.flush, E.operE)) := by
            show _ = _
            rw [HLay.out, List.drop_eq_nil_of_le (by simp [pl, HL.out])]
            rfl
          have d := hS.d
          unfold refA at d
          obtain ⟨p0, p1, p2, p3, p4, p5⟩ := d.all6
          have cF := Dk.rflushD hS.r (fun i hi => HQ.out i (Nat.le_trans hS.bel.size hi))
          unfold refA at cF
          clear hj hlt hS d HLay
          go_wp2_with fail
          refine cF.mono ?_
          rintro r w4 ⟨a3, a4, c3, n4, c4, rfl, R4, b4⟩
          have S4 := HS.out.below b4
          have d4 := S4.d
          unfold refA at d4
          clear cF p0 p1 p2 p3 p4 p5
          obtain ⟨p0, p1, p2, p3, p4, p5⟩ := d4.all6
          obtain ⟨g0, g1, g2, g3, g4, g5⟩ := d4.fr6
          have S5 : Hid (DyS w (set6D w4 w.heap.size a3 a4 n1 c3 n4 c4 E.flush) Q gb cur a3 a4 n1 c3 n4 c4 E.flush) := HS.out.next b4 R4
          clear S4 d4 R4 b4
          by_cases h0 : E.operE = 0
          · have hz : ((E.operE : Int) != 0) = false := by simp; omega
            have hdo : Hid (doD (pl L) 0 sb D = layD [(0, sb)] E.flush) := by
              show _ = _
              unfold doD
              rw [hlayE.out, if_pos h0]
            have hle := layD_le (pl L) D
            rw [hlayE.out, show (pl L).length = j by simp [pl, HL.out]] at hle
            obtain ⟨_, l1, l2⟩ := hle
            have l3 := HLim.out
            dsimp only at l1 l2
            have d5 := S5.out.d
            unfold set6D set6 refA at d5
            obtain ⟨q0, q1, q2, q3, q4, q5⟩ := d5.all6
            have cW := Dk.rwriteD S5.out.r (fun i hi => HQ.out i (Nat.le_trans S5.out.bel.size hi)) (by omega) (by omega) 0 (some ⟨gb, 0, none⟩) 4096 cb sb hsl (by omega) (rd_box HRS.out HBX.out S5.out.s)
            unfold refA at cW
            obtain ⟨E1, hE1⟩ : ∃ E1, E1 = E.flush := ⟨_, rfl⟩
            have HE1 : Hid (E1 = E.flush) := hE1
            clear hE1 d5 l1 l2 l3
            go_wp2_with fail
            refine cW.mono ?_
            rintro r w6 ⟨a6, n6, c6, rfl, R6, b6⟩
            clear cW p0 p1 p2 p3 p4 p5 g0 g1 g2 g3 g4 g5 q0 q1 q2 q3 q4 q5 hz
            have d6 := (S5.out.below b6).d
            unfold refA at d6
            obtain ⟨p0, p1, p2, p3, p4, p5⟩ := d6.all6
            obtain ⟨g0, g1, g2, g3, g4, g5⟩ := d6.fr6
            have S7 : Hid (DyS w (set6D w6 w.heap.size a3 a6 n1 c3 n6 c6 (E.flush.write 0 sb)) Q gb cur a3 a6 n1 c3 n6 c6 (E.flush.write 0 sb)) := S5.out.next b6 R6
            clear d6 R6 b6
            by_cases hw0 : E.flush.writeE 0 sb = 0
            · have hz : ((E.flush.writeE 0 sb : Int) != 0) = false := by simp; omega
              have hres : Hid (doD (pl L) 0 sb D = ((E.flush.write 0 sb).flush, (E.flush.write 0 sb).operE)) := by
                show _ = _
                rw [hdo.out]
                unfold layD
                rw [if_pos hw0]
                rfl
              have d7 := S7.out.d
              unfold set6D set6 refA at d7
              obtain ⟨q0, q1, q2, q3, q4, q5⟩ := d7.all6
              have cF := Dk.rflushD S7.out.r (fun i hi => HQ.out i (Nat.le_trans S7.out.bel.size hi))
              unfold refA at cF
              clear d7
              go_wp2_with fail
              refine cF.mono ?_
              rintro r w8 ⟨a8, a9, c8, n9, c9, rfl, R8, b8⟩
              have S8 := S7.out.below b8
              have o8 := S8.o
              unfold zero6 at o8
              have B8 := S8.bel
              clear cF p0 p1 p2 p3 p4 p5 g0 g1 g2 g3 g4 g5 q0 q1 q2 q3 q4 q5
              obtain ⟨t0, t1, t2, t3, t4, t5⟩ := o8.all6
              obtain ⟨f0, f1, f2, f3, f4, f5⟩ := o8.fr6
              clear S8 b8
              go_wp2_with fail
              rw [hres.out]
              refine bodyPost_ret (hd := rfl) (hR := ⟨a8, a9, c8, n9, c9, rfl, ?_, ?_⟩) (hr := ?_)
              · simp [results, Tryz.results16, go_sem, *]
              · exact R8.o49 (Dk.O49.set6 o8 _ _ _ _ _ _)
              · repeat (refine Below.setCell ?_ (by simp; omega) _)
                exact B8
            · have hne : ((E.flush.writeE 0 sb : Int) != 0) = true := by simp; omega
              have hres : Hid (doD (pl L) 0 sb D = (E.flush.write 0 sb, E.flush.writeE 0 sb)) := by
                show _ = _
                rw [hdo.out]
                unfold layD
                rw [if_neg hw0]
              have d7 := S7.out.d
              have o7 := S7.out.o
              unfold set6D set6 refA at d7
              unfold set6D set6 zero6 at o7
              obtain ⟨q0, q1, q2, q3, q4, q5⟩ := d7.all6
              obtain ⟨t0, t1, t2, t3, t4, t5⟩ := o7.all6
              obtain ⟨f0, f1, f2, f3, f4, f5⟩ := o7.fr6
              clear d7
              go_wp2_with fail
              rw [hres.out]
              refine bodyPost_ret (hd := rfl) (hR := ⟨a3, a6, c3, n6, c6, rfl, ?_, ?_⟩) (hr := ?_)
              · simp [results, Tryz.results16, go_sem, *]
              · exact S7.out.r.o49 (Dk.O49.set6 o7 _ _ _ _ _ _)
              · have B7 := S7.out.bel
                unfold set6D set6 at B7
                repeat (refine Below.setCell ?_ (by simp; omega) _)
                exact B7
          · have hne : ((E.operE : Int) != 0) = true := by simp; omega
            have hres : Hid (doD (pl L) 0 sb D = (E.flush, E.operE)) := by
              show _ = _
              unfold doD
              rw [hlayE.out, if_neg h0]
            have d5 := S5.out.d
            have o5 := S5.out.o
            unfold set6D set6 refA at d5
            unfold set6D set6 zero6 at o5
            obtain ⟨q0, q1, q2, q3, q4, q5⟩ := d5.all6
            obtain ⟨t0, t1, t2, t3, t4, t5⟩ := o5.all6
            obtain ⟨f0, f1, f2, f3, f4, f5⟩ := o5.fr6
            clear d5
            go_wp2_with fail
            rw [hres.out]
            refine bodyPost_ret (hd := rfl) (hR := ⟨a3, a4, c3, n4, c4, rfl, ?_, ?_⟩) (hr := ?_)
            · simp [results, Tryz.results16, go_sem, *]
            · exact S5.out.r.o49 (Dk.O49.set6 o5 _ _ _ _ _ _)
            · have B5 := S5.out.bel
              unfold set6D set6 at B5
              repeat (refine Below.setCell ?_ (by simp; omega) _)
              exact B5

set_option maxRecDepth 100000 in
set_option maxHeartbeats 4000000 in
theorem rdo_yes1 {w : World} {Q : Nat → Prop} {a1 a2 : Option Addr} {n1 c1 n2 c2 : Nat} {D : DS} (hR : RD w Q a1 a2 n1 c1 n2 c2 D) (hQ : ∀ i, w.heap.size ≤ i → Q i) (a : Option Addr) (n c : Nat) (L : List ImD) (b e q t : Int) (sb : List UInt8) (hl : L.length = n) (hn : n ≤ 1000) (hI : CellsI w a (L.map (·.1))) (hD : ∀ p ∈ L, Rd w p.1.2.1 p.2 ∧ p.2.length = p.1.2.2.1) (hlim : D.uf.length ≤ 800000 ∧ D.n ≤ 800000)
    (hsb : Su.putSuper b e q t = some sb) (hfit : (L.map (·.1)).all (fits D.nb) = true) :
    Calls Tryz.prog 16 #[.agg (refA a1 a2 n1 c1 n2 c2 D), .slice a n c, .agg #[.int .i64 b, .int .i64 e, .int .i64 q, .int .i64 t], .int .i64 1] w fun r w' => ∃ a1' a2' c1' n2' c2', r = .returned (.tuple #[.agg (refA a1' a2' n1 c1' n2' c2' (doD (pl L) 1 sb D).1), .int .i64 ((doD (pl L) 1 sb D).2 : Int)]) ∧ RD w' Q a1' a2' n1 c1' n2' c2' (doD (pl L) 1 sb D).1 ∧ Below w.heap.size w w' := by
  have hn1 := hR.ns
  have x0 := ((Box.new w #[.slice a1 n1 c1, .slice a2 n2 c2, .int .i64 (D.n : Int), .bool D.gone, .int .i64 (fuseI D.arm), .int .i64 (fuseI D.fail)] 41).alloc (.cells #[.int .i64 b, .int .i64 e, .int .i64 q, .int .i64 t] 28)).alloc (.cells #[.slice none 0 0, .slice none 0 0, .int .i64 0, .bool false, .int .i64 0, .int .i64 0] 41)
  have s0 := (Box.new (w.alloc (.cells #[.slice a1 n1 c1, .slice a2 n2 c2, .int .i64 (D.n : Int), .bool D.gone, .int .i64 (fuseI D.arm), .int .i64 (fuseI D.fail)] 41)) #[.int .i64 b, .int .i64 e, .int .i64 q, .int .i64 t] 28).alloc (.cells #[.slice none 0 0, .slice none 0 0, .int .i64 0, .bool false, .int .i64 0, .int .i64 0] 41)
  have y0 := Box.new ((w.alloc (.cells #[.slice a1 n1 c1, .slice a2 n2 c2, .int .i64 (D.n : Int), .bool D.gone, .int .i64 (fuseI D.arm), .int .i64 (fuseI D.fail)] 41)).alloc (.cells #[.int .i64 b, .int .i64 e, .int .i64 q, .int .i64 t] 28)) #[.slice none 0 0, .slice none 0 0, .int .i64 0, .bool false, .int .i64 0, .int .i64 0] 41
  have B0 := (((Below.refl w.heap.size w).alloc (Nat.le_refl _) (.cells #[.slice a1 n1 c1, .slice a2 n2 c2, .int .i64 (D.n : Int), .bool D.gone, .int .i64 (fuseI D.arm), .int .i64 (fuseI D.fail)] 41)).alloc (by simp) (.cells #[.int .i64 b, .int .i64 e, .int .i64 q, .int .i64 t] 28)).alloc (by simp; omega) (.cells #[.slice none 0 0, .slice none 0 0, .int .i64 0, .bool false, .int .i64 0, .int .i64 0] 41)
  have sz : ((w.alloc (.cells #[.slice a1 n1 c1, .slice a2 n2 c2, .int .i64 (D.n : Int), .bool D.gone, .int .i64 (fuseI D.arm), .int .i64 (fuseI D.fail)] 41)).alloc (.cells #[.int .i64 b, .int .i64 e, .int .i64 q, .int .i64 t] 28)).heap.size = w.heap.size + 2 := by simp
  have sz1 : (w.alloc (.cells #[.slice a1 n1 c1, .slice a2 n2 c2, .int .i64 (D.n : Int), .bool D.gone, .int .i64 (fuseI D.arm), .int .i64 (fuseI D.fail)] 41)).heap.size = w.heap.size + 1 := by simp
  rw [sz] at y0
  rw [sz1] at s0
  clear sz sz1
  have k0 := s0.cell 0
  have k1 := s0.cell 1
  have k2 := s0.cell 2
  have k3 := s0.cell 3
  simp only [List.getElem?_toArray, List.getElem?_cons_zero, List.getElem?_cons_succ] at k0 k1 k2 k3
  have cP := Su.refPutSuper_at b e q t (((w.alloc (.cells #[.slice a1 n1 c1, .slice a2 n2 c2, .int .i64 (D.n : Int), .bool D.gone, .int .i64 (fuseI D.arm), .int .i64 (fuseI D.fail)] 41)).alloc (.cells #[.int .i64 b, .int .i64 e, .int .i64 q, .int .i64 t] 28)).alloc (.cells #[.slice none 0 0, .slice none 0 0, .int .i64 0, .bool false, .int .i64 0, .int .i64 0] 41))
  have hsl : sb.length = 4096 := by
    unfold Su.putSuper at hsb
    split at hsb
    · injection hsb with h
      rw [← h, Su.superB_length]
    · cases hsb
  rw [hsb] at cP
  have he : erP (some sb) = 0 := rfl
  have HR : Hid (RD w Q a1 a2 n1 c1 n2 c2 D) := hR
  have HQ : Hid (∀ i, w.heap.size ≤ i → Q i) := hQ
  have HI : Hid (CellsI w a (L.map (·.1))) := hI
  have HD : Hid (∀ p ∈ L, Rd w p.1.2.1 p.2 ∧ p.2.length = p.1.2.2.1) := hD
  have HL : Hid (L.length = n) := hl
  have HLim : Hid (D.uf.length ≤ 800000 ∧ D.n ≤ 800000) := hlim
  have HF : Hid ((L.map (·.1)).all (fits n1) = true) := by rw [hn1]; exact hfit
  have hnb := hR.ok.hi
  rw [← hn1] at hnb
  clear hR hQ hI hD hl hlim hfit s0 hsb hn1
  unfold refA
  go_enter Tryz.func16, Tryz.ntmps16
  go_wp2_with fail
  refine Calls.mono cP ?_
  rintro r u1 ⟨v, rfl, hrow, b1⟩
  rw [he]
  obtain ⟨gb, cb, rfl, hgb, hgbl, rd⟩ := owns4096 hrow hsl
  obtain ⟨_, cur, hbx⟩ := Rc.owns_block hrow gb rfl
  have B1 := B0.trans (b1.mono B0.size)
  have S1 : Hid (DyS w u1 Q gb cur a1 a2 n1 c1 n2 c2 D) := ⟨x0.below b1, y0.below b1, HR.out.below B1, hbx, B1⟩
  have HRS : Hid (Rd u1 (some ⟨gb, 0, none⟩) sb) := rd
  have HBX : Hid (Box u1 gb cur 5) := hbx
  clear k0 k1 k2 k3 cP hrow b1 x0 y0 B0 he rd hbx hgb hgbl
  go_wp2_with fail
  go_loopw [12] (fun i u => ∃ k : Nat, k ≤ n ∧ i = .int .i64 (k : Int) ∧ DyS w u Q gb cur a1 a2 n1 c1 n2 c2 D) (fun i _ => n - (intOf i).toNat)
  case atStart => exact ⟨0, Nat.zero_le _, rfl, S1.out⟩
  case round =>
    obtain ⟨k, hk, rfl, hS⟩ := hrel
    have HS : Hid (DyS w wr Q gb cur a1 a2 n1 c1 n2 c2 D) := hS
    by_cases hlt : k < n
    · have hki : (k : Int) < (n : Int) := by omega
      have hk0 : (0 : Int) ≤ (k : Int) := by omega
      have hkl : k < (L.map (·.1)).length := by rw [List.length_map, HL.out]; exact hlt
      obtain ⟨bb, o, rfl, hcc⟩ := HI.out (by omega)
      obtain ⟨z0, z1⟩ := hcc k hkl
      have lb := block_lt_of_cell z0
      have x0 := (hS.bel.cell (p := ⟨bb, o + k * 2, none⟩) lb).trans z0
      have x1 := (hS.bel.cell (p := ⟨bb, o + k * 2 + 1, none⟩) lb).trans z1
      have d := hS.d
      unfold refA at d
      have d0 := d.cell 0
      simp only [List.getElem?_toArray, List.getElem?_cons_zero] at d0
      have hf := List.all_eq_true.1 HF.out _ (List.getElem_mem hkl)
      generalize ((L.map (·.1))[k]'hkl) = P at x0 x1 hf
      obtain ⟨pb, pa, pn, pc⟩ := P
      dsimp only at x0 x1
      clear hcc z0 z1 lb hS d
      simp only [fits, wi, Bool.and_eq_true, decide_eq_true_eq] at hf
      obtain ⟨⟨f1, f2⟩, rfl⟩ := hf
      have e1 : decide (pb < 2) = false := decide_eq_false (by omega)
      have e2 : decide ((n1 : Int) ≤ pb) = false := decide_eq_false (by omega)
      go_wp2_with fail
      go_quiet (fail)
      have HS3 : Hid (DyS w (wr.drewN nq) Q gb cur a1 a2 n1 c1 n2 c2 D) := HS.out.below (below_drewN (Below.refl _ _) nq)
      clear x0 x1 d0
      go_wp2_with fail
      go_roundw
      case rel => exact ⟨k + 1, by omega, by push_cast; rfl, HS3.out⟩
      case measure => simp [intOf]; omega
    · have hke : k = n := by omega
      subst hke
      clear hS hlt hk S1
      go_wp2_with fail
      go_loopw [13] (fun i u => ∃ (j : Nat) (E : DS) (a2' : Option Addr) (n2' c2' : Nat), j ≤ k ∧ i = .int .i64 (j : Int) ∧ DyS w u Q gb cur a1 a2' n1 c1 n2' c2' E ∧ layD (pl L) D = layD ((pl L).drop j) E ∧ E.uf.length ≤ D.uf.length + j ∧ E.n ≤ D.n + j) (fun i _ => k - (intOf i).toNat)
      case atStart => exact ⟨0, D, a2, n2, c2, Nat.zero_le _, rfl, HS.out, by simp, by omega, by omega⟩
      case round =>
        clear HS
        obtain ⟨j, E, a2', n2', c2', hj, rfl, hS, hlay, hu, hn2⟩ := hrel
        have HS : Hid (DyS w wr Q gb cur a1 a2' n1 c1 n2' c2' E) := hS
        have HLay : Hid (layD (pl L) D = layD ((pl L).drop j) E) := hlay
        have HB : Hid (E.uf.length ≤ D.uf.length + j ∧ E.n ≤ D.n + j) := ⟨hu, hn2⟩
        clear hlay hu hn2
        by_cases hlt : j < k
        · have hki : (j : Int) < (k : Int) := by omega
          have hk0 : (0 : Int) ≤ (j : Int) := by omega
          have hjl : j < L.length := by rw [HL.out]; exact hlt
          obtain ⟨bb, o, rfl, hcc⟩ := HI.out (by rw [List.length_map]; omega)
          obtain ⟨z0, z1⟩ := hcc j (by rw [List.length_map]; exact hjl)
          have lb := block_lt_of_cell z0
          have x0 := (hS.bel.cell (p := ⟨bb, o + j * 2, none⟩) lb).trans z0
          have x1 := (hS.bel.cell (p := ⟨bb, o + j * 2 + 1, none⟩) lb).trans z1
          obtain ⟨r1, r2⟩ := HD.out L[j] (List.getElem_mem hjl)
          have hdrop : Hid ((pl L).drop j = (L[j].1.1, L[j].2) :: (pl L).drop (j + 1)) := by
            show _ = _
            have h1 : j < (pl L).length := by simp [pl]; exact hjl
            rw [List.drop_eq_getElem_cons h1]
            simp [pl]
          simp only [List.getElem_map] at x0 x1
          have hf := List.all_eq_true.1 HF.out L[j].1 (List.mem_map_of_mem (List.getElem_mem hjl))
          generalize (L[j]'hjl) = P at x0 x1 r1 r2 hdrop hf
          obtain ⟨⟨pb, pa, pn, pc⟩, xs⟩ := P
          dsimp only at x0 x1 r1 r2 hdrop
          subst r2
          simp only [fits, wi, Bool.and_eq_true, decide_eq_true_eq] at hf
          have hx := hf.2
          rw [hx] at x1
          clear hf
          have d := hS.d
          unfold refA at d
          obtain ⟨p0, p1, p2, p3, p4, p5⟩ := d.all6
          have bdr := (Below.refl wr.heap.size wr).drew
          have cW := Dk.rwriteD (hS.r.below bdr) (fun i hi => HQ.out i (Nat.le_trans hS.bel.size hi)) (by have := HB.out; have := HLim.out; omega) (by have := HB.out; have := HLim.out; omega) pb pa 4096 pc xs hx (by omega) ((r1.below hS.bel (Nat.le_refl _)).below bdr (Nat.le_refl _))
          unfold refA at cW
          have HCS : Hid (∀ q ∈ [((⟨bb, o + j * 2, none⟩ : Addr), Value.int .i64 pb), (⟨bb, o + j * 2 + 1, none⟩, .slice pa 4096 pc), (⟨w.heap.size, 0, none⟩, .slice a1 n1 c1), (⟨w.heap.size, 1, none⟩, .slice a2' n2' c2'), (⟨w.heap.size, 2, none⟩, .int .i64 (E.n : Int)), (⟨w.heap.size, 3, none⟩, .bool E.gone), (⟨w.heap.size, 4, none⟩, .int .i64 (fuseI E.arm)), (⟨w.heap.size, 5, none⟩, .int .i64 (fuseI E.fail))], (World.drew wr).cell? q.1 = some q.2) := fun q hq => by
            simp only [List.mem_cons, List.not_mem_nil, or_false] at hq
            rcases hq with rfl | rfl | rfl | rfl | rfl | rfl | rfl | rfl
            · exact x0
            · exact x1
            · exact p0
            · exact p1
            · exact p2
            · exact p3
            · exact p4
            · exact p5
          clear hcc z0 z1 lb hS d r1 p0 p1 p2 p3 p4 p5 hx x0 x1
          go_upto_region 12 with fail
          refine wp_region_any (by kernel_rfl) ?_
          change wpAny _ _ _ _ _ _ _ (World.drew _)
          refine wpAny_take (i := 1) (v := ?_) rfl (by kernel_rfl) (by kernel_rfl) (by kernel_rfl) (fun _ _ _ h => h) (Or.inl ⟨by rfl, ?_⟩) ?_
          rotate_left
          · intro w
            go_simp
            with_reducible rfl
          simp only [Act.put, List.setIfInBounds_toArray, List.set_cons_zero, List.set_cons_succ, List.getElem_toArray, List.getElem_cons_zero, List.getElem_cons_succ]
          refine wpAny_take (i := 2) (v := ?_) rfl (by kernel_rfl) (by kernel_rfl) (by kernel_rfl) (fun _ _ _ h => h) (Or.inl ⟨by rfl, ?_⟩) ?_
          rotate_left
          · intro w
            go_simp
            with_reducible rfl
          simp only [Act.put, List.setIfInBounds_toArray, List.set_cons_zero, List.set_cons_succ, List.getElem_toArray, List.getElem_cons_zero, List.getElem_cons_succ]
          refine wpAny_take (i := 3) (v := ?_) rfl (by kernel_rfl) (by kernel_rfl) (by kernel_rfl) (fun _ _ _ h => h) (Or.inl ⟨by rfl, ?_⟩) ?_
          rotate_left
          · intro w
            go_simp
            with_reducible rfl
          simp only [Act.put, List.setIfInBounds_toArray, List.set_cons_zero, List.set_cons_succ, List.getElem_toArray, List.getElem_cons_zero, List.getElem_cons_succ]
          refine wpAny_take (i := 4) (v := ?_) rfl (by kernel_rfl) (by kernel_rfl) (by kernel_rfl) (fun _ _ _ h => h) (Or.inl ⟨by rfl, ?_⟩) ?_
          rotate_left
          · intro w
            go_simp
            with_reducible rfl
          simp only [Act.put, List.setIfInBounds_toArray, List.set_cons_zero, List.set_cons_succ, List.getElem_toArray, List.getElem_cons_zero, List.getElem_cons_succ]
          refine wpAny_take (i := 6) (v := ?_) rfl (by kernel_rfl) (by kernel_rfl) (by kernel_rfl) (fun _ _ _ h => h) (Or.inl ⟨by rfl, ?_⟩) ?_
          rotate_left
          · intro w
            go_simp
            with_reducible rfl
          simp only [Act.put, List.setIfInBounds_toArray, List.set_cons_zero, List.set_cons_succ, List.getElem_toArray, List.getElem_cons_zero, List.getElem_cons_succ]
          refine wpAny_take (i := 7) (v := ?_) rfl (by kernel_rfl) (by kernel_rfl) (by kernel_rfl) (fun _ _ _ h => h) (Or.inl ⟨by rfl, ?_⟩) ?_
          rotate_left
          · intro w
            go_simp
            with_reducible rfl
          simp only [Act.put, List.setIfInBounds_toArray, List.set_cons_zero, List.set_cons_succ, List.getElem_toArray, List.getElem_cons_zero, List.getElem_cons_succ]
          refine wpAny_take (i := 8) (v := ?_) rfl (by kernel_rfl) (by kernel_rfl) (by kernel_rfl) (fun _ _ _ h => h) (Or.inl ⟨by rfl, ?_⟩) ?_
          rotate_left
          · intro w
            go_simp
            with_reducible rfl
          simp only [Act.put, List.setIfInBounds_toArray, List.set_cons_zero, List.set_cons_succ, List.getElem_toArray, List.getElem_cons_zero, List.getElem_cons_succ]
          refine wpAny_take (i := 9) (v := ?_) rfl (by kernel_rfl) (by kernel_rfl) (by kernel_rfl) (fun _ _ _ h => h) (Or.inl ⟨by rfl, ?_⟩) ?_
          rotate_left
          · intro w
            go_simp
            with_reducible rfl
          simp only [Act.put, List.setIfInBounds_toArray, List.set_cons_zero, List.set_cons_succ, List.getElem_toArray, List.getElem_cons_zero, List.getElem_cons_succ]
          refine wpAny_of_E (C := Dk.SlotsCells [(4, .pointer (some ⟨w.heap.size, 0, none⟩)), (74, .pointer (some ⟨bb, o + j * 2, none⟩)), (79, .pointer (some ⟨bb, o + j * 2 + 1, none⟩))] [((⟨bb, o + j * 2, none⟩ : Addr), Value.int .i64 pb), (⟨bb, o + j * 2 + 1, none⟩, .slice pa 4096 pc), (⟨w.heap.size, 0, none⟩, .slice a1 n1 c1), (⟨w.heap.size, 1, none⟩, .slice a2' n2' c2'), (⟨w.heap.size, 2, none⟩, .int .i64 (E.n : Int)), (⟨w.heap.size, 3, none⟩, .bool E.gone), (⟨w.heap.size, 4, none⟩, .int .i64 (fuseI E.arm)), (⟨w.heap.size, 5, none⟩, .int .i64 (fuseI E.fail))]) (late := [15]) _ _ _ _ ?_
          refine wpAnyE_take (i := 5) (v := .int .i64 pb) rfl (by kernel_rfl) (by kernel_rfl) (by kernel_rfl) (by kernel_rfl) (by kernel_rfl) (by kernel_rfl) (fun _ _ _ h => h) ?_ (fun fr u h => (Dk.SlotsCells.put 75 _ (by rfl)).1 h) (fun fr u h => (Dk.SlotsCells.put 75 _ (by rfl)).2 h) ?_ ?_
          · intro fr u hh
            obtain ⟨e1, e2⟩ := hh.load (s := 74) (p := ⟨bb, o + j * 2, none⟩) (v := .int .i64 pb) (by simp) (by simp)
            exact ⟨rfl, by simp [execOp, e1, go_sem, e2]⟩
          · exact ⟨fun p hp => by simp at hp; rcases hp with rfl | rfl | rfl <;> rfl, HCS.out⟩
          simp only [Act.put, List.setIfInBounds_toArray, List.set_cons_zero, List.set_cons_succ, List.getElem_toArray, List.getElem_cons_zero, List.getElem_cons_succ]
          refine wpAnyE_take (i := 10) (v := .slice pa 4096 pc) rfl (by kernel_rfl) (by kernel_rfl) (by kernel_rfl) (by kernel_rfl) (by kernel_rfl) (by kernel_rfl) (fun _ _ _ h => h) ?_ (fun fr u h => (Dk.SlotsCells.put 80 _ (by rfl)).1 h) (fun fr u h => (Dk.SlotsCells.put 80 _ (by rfl)).2 h) ?_ ?_
          · intro fr u hh
            obtain ⟨e1, e2⟩ := hh.load (s := 79) (p := ⟨bb, o + j * 2 + 1, none⟩) (v := .slice pa 4096 pc) (by simp) (by simp)
            exact ⟨rfl, by simp [execOp, e1, go_sem, e2]⟩
          · exact ⟨fun p hp => by simp at hp; rcases hp with rfl | rfl | rfl <;> rfl, HCS.out⟩
          simp only [Act.put, List.setIfInBounds_toArray, List.set_cons_zero, List.set_cons_succ, List.getElem_toArray, List.getElem_cons_zero, List.getElem_cons_succ]
          refine wpAnyE_take (i := 0) (v := .agg #[.slice a1 n1 c1, .slice a2' n2' c2', .int .i64 (E.n : Int), .bool E.gone, .int .i64 (fuseI E.arm), .int .i64 (fuseI E.fail)]) rfl (by kernel_rfl) (by kernel_rfl) (by kernel_rfl) (by kernel_rfl) (by kernel_rfl) (by kernel_rfl) (fun _ _ _ h => h) ?_ (fun fr u h => (Dk.SlotsCells.put 70 _ (by rfl)).1 h) (fun fr u h => (Dk.SlotsCells.put 70 _ (by rfl)).2 h) ?_ ?_
          · intro fr u hh
            have e1 := hh.val (s := 4) (v := .pointer (some ⟨w.heap.size, 0, none⟩)) (by simp)
            have m0 := hh.2 (⟨w.heap.size, 0, none⟩, .slice a1 n1 c1) (by simp)
            have m1 := hh.2 (⟨w.heap.size, 1, none⟩, .slice a2' n2' c2') (by simp)
            have m2 := hh.2 (⟨w.heap.size, 2, none⟩, .int .i64 (E.n : Int)) (by simp)
            have m3 := hh.2 (⟨w.heap.size, 3, none⟩, .bool E.gone) (by simp)
            have m4 := hh.2 (⟨w.heap.size, 4, none⟩, .int .i64 (fuseI E.arm)) (by simp)
            have m5 := hh.2 (⟨w.heap.size, 5, none⟩, .int .i64 (fuseI E.fail)) (by simp)
            dsimp only at m0 m1 m2 m3 m4 m5
            refine ⟨rfl, ?_⟩
            simp [execOp, e1, go_sem, m0, m1, m2, m3, m4, m5]
          · exact ⟨fun p hp => by simp at hp; rcases hp with rfl | rfl | rfl <;> rfl, HCS.out⟩
          simp only [Act.put, List.setIfInBounds_toArray, List.set_cons_zero, List.set_cons_succ, List.getElem_toArray, List.getElem_cons_zero]
          refine wpAnyE_some (rs := [11]) (by kernel_rfl) (by simp) (fun i hi => ?_)
          simp only [List.mem_cons, List.not_mem_nil, or_false] at hi
          subst hi
          refine wpOp_step rfl (fun K hK => ?_)
          go_simp
          refine Calls.mono cW ?_
          rintro r w6 ⟨a6, n6, c6, rfl, R6, b6⟩
          have HC1 : Hid (∀ q ∈ [((⟨bb, o + j * 2, none⟩ : Addr), Value.int .i64 pb), (⟨bb, o + j * 2 + 1, none⟩, .slice pa 4096 pc), (⟨w.heap.size, 0, none⟩, .slice a1 n1 c1), (⟨w.heap.size, 1, none⟩, .slice a2' n2' c2'), (⟨w.heap.size, 2, none⟩, .int .i64 (E.n : Int)), (⟨w.heap.size, 3, none⟩, .bool E.gone), (⟨w.heap.size, 4, none⟩, .int .i64 (fuseI E.arm)), (⟨w.heap.size, 5, none⟩, .int .i64 (fuseI E.fail))], w6.cell? q.1 = some q.2) := fun q hq => (b6.cell (p := q.1) (block_lt_of_cell (HCS.out q hq))).trans (HCS.out q hq)
          refine hK _ _ ⟨.inr (.inr ⟨fun p hp => by simp at hp; rcases hp with rfl | rfl | rfl <;> rfl, HC1.out⟩), ?_⟩
          clear hK K
          refine wpAnyE_pure (i := 12) (v := ?_) rfl (by kernel_rfl) (by kernel_rfl) (by kernel_rfl) (by kernel_rfl) (fun _ _ _ h => h) (fun fr u h => (Dk.SlotsCells.put 69 _ (by rfl)).1 h) (fun fr u h => (Dk.SlotsCells.put 69 _ (by rfl)).2 h) (.inr ⟨fun p hp => by simp at hp; rcases hp with rfl | rfl | rfl <;> rfl, HC1.out⟩) (Or.inl ⟨by rfl, ?_⟩) ?_
          rotate_left
          · intro w
            go_simp
            with_reducible rfl
          simp only [Act.put, List.setIfInBounds_toArray, List.set_cons_zero, List.set_cons_succ, List.getElem_toArray, List.getElem_cons_zero, List.getElem_cons_succ]
          refine wpAnyE_pure (i := 13) (v := ?_) rfl (by kernel_rfl) (by kernel_rfl) (by kernel_rfl) (by kernel_rfl) (fun _ _ _ h => h) (fun fr u h => (Dk.SlotsCells.put 82 _ (by rfl)).1 h) (fun fr u h => (Dk.SlotsCells.put 82 _ (by rfl)).2 h) (.inr ⟨fun p hp => by simp at hp; rcases hp with rfl | rfl | rfl <;> rfl, HC1.out⟩) (Or.inl ⟨by rfl, ?_⟩) ?_
          rotate_left
          · intro w
            go_simp
            with_reducible rfl
          simp only [Act.put, List.setIfInBounds_toArray, List.set_cons_zero, List.set_cons_succ, List.getElem_toArray, List.getElem_cons_zero, List.getElem_cons_succ]
          refine wpAnyE_pure (i := 14) (v := ?_) rfl (by kernel_rfl) (by kernel_rfl) (by kernel_rfl) (by kernel_rfl) (fun _ _ _ h => h) (fun fr u h => (Dk.SlotsCells.put 83 _ (by rfl)).1 h) (fun fr u h => (Dk.SlotsCells.put 83 _ (by rfl)).2 h) (.inr ⟨fun p hp => by simp at hp; rcases hp with rfl | rfl | rfl <;> rfl, HC1.out⟩) (Or.inl ⟨by rfl, ?_⟩) ?_
          rotate_left
          · intro w
            go_simp
            with_reducible rfl
          simp only [Act.put, List.setIfInBounds_toArray, List.set_cons_zero, List.set_cons_succ, List.getElem_toArray, List.getElem_cons_zero, List.getElem_cons_succ]
          have S6 := (HS.out.below bdr).below b6
          have d6 := S6.d
          unfold refA at d6
          obtain ⟨p0, p1, p2, p3, p4, p5⟩ := d6.all6
          obtain ⟨g0, g1, g2, g3, g4, g5⟩ := d6.fr6
          have S7 : Hid (DyS w (set6D w6 w.heap.size a1 a6 n1 c1 n6 c6 (E.write pb xs)) Q gb cur a1 a6 n1 c1 n6 c6 (E.write pb xs)) := (HS.out.below bdr).next b6 R6
          clear S6 d6 R6
          refine wpAnyE_some (rs := [15]) (by kernel_rfl) (by simp) (fun i hi => ?_)
          simp only [List.mem_cons, List.not_mem_nil, or_false] at hi
          subst hi
          refine wpOp_step rfl (fun K hK => ?_)
          go_simp
          refine hK _ _ ⟨.inr (.inl rfl), ?_⟩
          clear hK K
          refine wpAnyE_some (rs := [16]) (by kernel_rfl) (by simp) (fun i hi => ?_)
          simp only [List.mem_cons, List.not_mem_nil, or_false] at hi
          subst hi
          refine wpOp_step rfl (fun K hK => ?_)
          go_simp
          refine hK _ _ ⟨.inl (by kernel_rfl), ?_⟩
          clear hK K
          refine wpAnyE_done (by kernel_rfl) ?_ _
          clear p0 p1 p2 p3 p4 p5 g0 g1 g2 g3 g4 g5 HCS HC1 cW bdr b6
          by_cases hw0 : E.writeE pb xs = 0
          · have hz : ((E.writeE pb xs : Int) != 0) = false := by simp; omega
            have HL2 : Hid (layD (pl L) D = layD ((pl L).drop (j + 1)) (E.write pb xs)) := by
              show _ = _
              rw [HLay.out, hdrop.out]
              conv => lhs; unfold layD
              rw [if_pos hw0]
            have hle := write_le E pb xs
            have HB2 : Hid ((E.write pb xs).uf.length ≤ D.uf.length + (j + 1) ∧ (E.write pb xs).n ≤ D.n + (j + 1)) := ⟨by have := HB.out; omega, by have := HB.out; omega⟩
            clear hle hw0
            go_wp2_with fail
            go_roundw
            case rel => exact ⟨j + 1, E.write pb xs, a6, n6, c6, by omega, by push_cast; rfl, S7.out, HL2.out, HB2.out.1, HB2.out.2⟩
            case measure => simp [intOf]; omega
          · have hne : ((E.writeE pb xs : Int) != 0) = true := by simp; omega
            have hres : Hid (doD (pl L) 1 sb D = (E.write pb xs, E.writeE pb xs)) := by
              show _ = _
              have e : layD (pl L) D = (E.write pb xs, E.writeE pb xs) := by
                rw [HLay.out, hdrop.out]
                conv => lhs; unfold layD
                rw [if_neg hw0]
              unfold doD
              rw [e, if_neg hw0]
            have d7 := S7.out.d
            have o7 := S7.out.o
            unfold set6D set6 refA at d7
            unfold set6D set6 zero6 at o7
            obtain ⟨q0, q1, q2, q3, q4, q5⟩ := d7.all6
            obtain ⟨t0, t1, t2, t3, t4, t5⟩ := o7.all6
            obtain ⟨f0, f1, f2, f3, f4, f5⟩ := o7.fr6
            clear d7
            go_wp2_with fail
            rw [hres.out]
            refine bodyPost_ret (hd := rfl) (hR := ⟨a1, a6, c1, n6, c6, rfl, ?_, ?_⟩) (hr := ?_)
            · simp [results, Tryz.results16, go_sem, *]
            · exact S7.out.r.o49 (Dk.O49.set6 o7 _ _ _ _ _ _)
            · have B7 := S7.out.bel
              unfold set6D set6 at B7
              repeat (refine Below.setCell ?_ (by simp; omega) _)
              exact B7
        · have hje : j = k := by omega
          subst hje
          have hlayE : Hid (layD (pl L) D = (E.flush, E.operE)) := by
            show _ = _
            rw [HLay.out, List.drop_eq_nil_of_le (by simp [pl, HL.out])]
            rfl
          have d := hS.d
          unfold refA at d
          obtain ⟨p0, p1, p2, p3, p4, p5⟩ := d.all6
          have cF := Dk.rflushD hS.r (fun i hi => HQ.out i (Nat.le_trans hS.bel.size hi))
          unfold refA at cF
          clear hj hlt hS d HLay
          go_wp2_with fail
          refine cF.mono ?_
          rintro r w4 ⟨a3, a4, c3, n4, c4, rfl, R4, b4⟩
          have S4 := HS.out.below b4
          have d4 := S4.d
          unfold refA at d4
          clear cF p0 p1 p2 p3 p4 p5
          obtain ⟨p0, p1, p2, p3, p4, p5⟩ := d4.all6
          obtain ⟨g0, g1, g2, g3, g4, g5⟩ := d4.fr6
          have S5 : Hid (DyS w (set6D w4 w.heap.size a3 a4 n1 c3 n4 c4 E.flush) Q gb cur a3 a4 n1 c3 n4 c4 E.flush) := HS.out.next b4 R4
          clear S4 d4 R4 b4
          by_cases h0 : E.operE = 0
          · have hz : ((E.operE : Int) != 0) = false := by simp; omega
            have hdo : Hid (doD (pl L) 1 sb D = layD [(1, sb)] E.flush) := by
              show _ = _
              unfold doD
              rw [hlayE.out, if_pos h0]
            have hle := layD_le (pl L) D
            rw [hlayE.out, show (pl L).length = j by simp [pl, HL.out]] at hle
            obtain ⟨_, l1, l2⟩ := hle
            have l3 := HLim.out
            dsimp only at l1 l2
            have d5 := S5.out.d
            unfold set6D set6 refA at d5
            obtain ⟨q0, q1, q2, q3, q4, q5⟩ := d5.all6
            have cW := Dk.rwriteD S5.out.r (fun i hi => HQ.out i (Nat.le_trans S5.out.bel.size hi)) (by omega) (by omega) 1 (some ⟨gb, 0, none⟩) 4096 cb sb hsl (by omega) (rd_box HRS.out HBX.out S5.out.s)
            unfold refA at cW
            obtain ⟨E1, hE1⟩ : ∃ E1, E1 = E.flush := ⟨_, rfl⟩
            have HE1 : Hid (E1 = E.flush) := hE1
            clear hE1 d5 l1 l2 l3
            go_wp2_with fail
            refine cW.mono ?_
            rintro r w6 ⟨a6, n6, c6, rfl, R6, b6⟩
            clear cW p0 p1 p2 p3 p4 p5 g0 g1 g2 g3 g4 g5 q0 q1 q2 q3 q4 q5 hz
            have d6 := (S5.out.below b6).d
            unfold refA at d6
            obtain ⟨p0, p1, p2, p3, p4, p5⟩ := d6.all6
            obtain ⟨g0, g1, g2, g3, g4, g5⟩ := d6.fr6
            have S7 : Hid (DyS w (set6D w6 w.heap.size a3 a6 n1 c3 n6 c6 (E.flush.write 1 sb)) Q gb cur a3 a6 n1 c3 n6 c6 (E.flush.write 1 sb)) := S5.out.next b6 R6
            clear d6 R6 b6
            by_cases hw0 : E.flush.writeE 1 sb = 0
            · have hz : ((E.flush.writeE 1 sb : Int) != 0) = false := by simp; omega
              have hres : Hid (doD (pl L) 1 sb D = ((E.flush.write 1 sb).flush, (E.flush.write 1 sb).operE)) := by
                show _ = _
                rw [hdo.out]
                unfold layD
                rw [if_pos hw0]
                rfl
              have d7 := S7.out.d
              unfold set6D set6 refA at d7
              obtain ⟨q0, q1, q2, q3, q4, q5⟩ := d7.all6
              have cF := Dk.rflushD S7.out.r (fun i hi => HQ.out i (Nat.le_trans S7.out.bel.size hi))
              unfold refA at cF
              clear d7
              go_wp2_with fail
              refine cF.mono ?_
              rintro r w8 ⟨a8, a9, c8, n9, c9, rfl, R8, b8⟩
              have S8 := S7.out.below b8
              have o8 := S8.o
              unfold zero6 at o8
              have B8 := S8.bel
              clear cF p0 p1 p2 p3 p4 p5 g0 g1 g2 g3 g4 g5 q0 q1 q2 q3 q4 q5
              obtain ⟨t0, t1, t2, t3, t4, t5⟩ := o8.all6
              obtain ⟨f0, f1, f2, f3, f4, f5⟩ := o8.fr6
              clear S8 b8
              go_wp2_with fail
              rw [hres.out]
              refine bodyPost_ret (hd := rfl) (hR := ⟨a8, a9, c8, n9, c9, rfl, ?_, ?_⟩) (hr := ?_)
              · simp [results, Tryz.results16, go_sem, *]
              · exact R8.o49 (Dk.O49.set6 o8 _ _ _ _ _ _)
              · repeat (refine Below.setCell ?_ (by simp; omega) _)
                exact B8
            · have hne : ((E.flush.writeE 1 sb : Int) != 0) = true := by simp; omega
              have hres : Hid (doD (pl L) 1 sb D = (E.flush.write 1 sb, E.flush.writeE 1 sb)) := by
                show _ = _
                rw [hdo.out]
                unfold layD
                rw [if_neg hw0]
              have d7 := S7.out.d
              have o7 := S7.out.o
              unfold set6D set6 refA at d7
              unfold set6D set6 zero6 at o7
              obtain ⟨q0, q1, q2, q3, q4, q5⟩ := d7.all6
              obtain ⟨t0, t1, t2, t3, t4, t5⟩ := o7.all6
              obtain ⟨f0, f1, f2, f3, f4, f5⟩ := o7.fr6
              clear d7
              go_wp2_with fail
              rw [hres.out]
              refine bodyPost_ret (hd := rfl) (hR := ⟨a3, a6, c3, n6, c6, rfl, ?_, ?_⟩) (hr := ?_)
              · simp [results, Tryz.results16, go_sem, *]
              · exact S7.out.r.o49 (Dk.O49.set6 o7 _ _ _ _ _ _)
              · have B7 := S7.out.bel
                unfold set6D set6 at B7
                repeat (refine Below.setCell ?_ (by simp; omega) _)
                exact B7
          · have hne : ((E.operE : Int) != 0) = true := by simp; omega
            have hres : Hid (doD (pl L) 1 sb D = (E.flush, E.operE)) := by
              show _ = _
              unfold doD
              rw [hlayE.out, if_neg h0]
            have d5 := S5.out.d
            have o5 := S5.out.o
            unfold set6D set6 refA at d5
            unfold set6D set6 zero6 at o5
            obtain ⟨q0, q1, q2, q3, q4, q5⟩ := d5.all6
            obtain ⟨t0, t1, t2, t3, t4, t5⟩ := o5.all6
            obtain ⟨f0, f1, f2, f3, f4, f5⟩ := o5.fr6
            clear d5
            go_wp2_with fail
            rw [hres.out]
            refine bodyPost_ret (hd := rfl) (hR := ⟨a3, a4, c3, n4, c4, rfl, ?_, ?_⟩) (hr := ?_)
            · simp [results, Tryz.results16, go_sem, *]
            · exact S5.out.r.o49 (Dk.O49.set6 o5 _ _ _ _ _ _)
            · have B5 := S5.out.bel
              unfold set6D set6 at B5
              repeat (refine Below.setCell ?_ (by simp; omega) _)
              exact B5

theorem rdo_at {w : World} {Q : Nat → Prop} {a1 a2 : Option Addr} {n1 c1 n2 c2 : Nat} {D : DS} (hR : RD w Q a1 a2 n1 c1 n2 c2 D) (hQ : ∀ i, w.heap.size ≤ i → Q i) (a : Option Addr) (n c : Nat) (L : List ImD) (b e q t slot : Int) (hl : L.length = n) (hn : n ≤ 1000) (hI : CellsI w a (L.map (·.1))) (hD : ∀ p ∈ L, Rd w p.1.2.1 p.2 ∧ p.2.length = p.1.2.2.1) (hlim : D.uf.length ≤ 800000 ∧ D.n ≤ 800000) :
    Calls Tryz.prog 16 #[.agg (refA a1 a2 n1 c1 n2 c2 D), .slice a n c, .agg #[.int .i64 b, .int .i64 e, .int .i64 q, .int .i64 t], .int .i64 slot] w fun r w' => ∃ a1' a2' c1' n2' c2', r = .returned (.tuple #[.agg (refA a1' a2' n1 c1' n2' c2' (doR D L (Su.putSuper b e q t) slot).1), .int .i64 ((doR D L (Su.putSuper b e q t) slot).2 : Int)]) ∧ RD w' Q a1' a2' n1 c1' n2' c2' (doR D L (Su.putSuper b e q t) slot).1 ∧ Below w.heap.size w w' := by
  have hn1 := hR.ns
  have hhi := hR.ok.hi
  have no : (Su.putSuper b e q t = none ∨ wi slot 0 1 = false ∨ (L.map (·.1)).all (fits n1) = false) → doR D L (Su.putSuper b e q t) slot = (D, 2) → Calls Tryz.prog 16 #[.agg (refA a1 a2 n1 c1 n2 c2 D), .slice a n c, .agg #[.int .i64 b, .int .i64 e, .int .i64 q, .int .i64 t], .int .i64 slot] w fun r w' => ∃ a1' a2' c1' n2' c2', r = .returned (.tuple #[.agg (refA a1' a2' n1 c1' n2' c2' (doR D L (Su.putSuper b e q t) slot).1), .int .i64 ((doR D L (Su.putSuper b e q t) slot).2 : Int)]) ∧ RD w' Q a1' a2' n1 c1' n2' c2' (doR D L (Su.putSuper b e q t) slot).1 ∧ Below w.heap.size w w' := fun h e1 => by
    rw [e1]
    refine (rdo_no a1 a2 n1 c1 n2 c2 D.n (fuseI D.arm) (fuseI D.fail) D.gone w a n c (L.map (·.1)) b e q t slot (by omega) (by rw [List.length_map, hl]) (by omega) hI h).mono ?_
    rintro r w' ⟨rfl, B⟩
    exact ⟨a1, a2, c1, n2, c2, rfl, hR.below B, B⟩
  cases hs : Su.putSuper b e q t with
  | none => rw [hs] at no; exact no (.inl rfl) rfl
  | some sb =>
    rw [hs] at no
    cases hw : wi slot 0 1 with
    | false => exact no (.inr (.inl hw)) (by simp [doR, hw])
    | true =>
      cases hf : (L.map (·.1)).all (fits D.nb) with
      | false => exact no (.inr (.inr (by rw [hn1]; exact hf))) (by simp only [doR, hw, hf]; rfl)
      | true =>
        have e1 : doR D L (some sb) slot = doD (pl L) slot sb D := by simp only [doR, hw, hf]; rfl
        rw [e1]
        have h01 : slot = 0 ∨ slot = 1 := by
          simp [wi] at hw
          omega
        rcases h01 with rfl | rfl
        · exact rdo_yes0 hR hQ a n c L b e q t sb hl hn hI hD hlim hs hf
        · exact rdo_yes1 hR hQ a n c L b e q t sb hl hn hI hD hlim hs hf
end Go.Proofs.YtdkaacjeogifdaaGreat.H

/-
  The document's disk, armed.
-/
namespace Go.Proofs.YtdkaacjeogifdaaGreat.Dk
open Go.RowKit

theorem armed_ref (a1 a2 : Option Addr) (n1 c1 n2 c2 : Nat) (cnt am fl : Int) (dn : Bool) (n : Int) (w : World) :
    Calls Tryz.prog 13 #[.agg #[.slice a1 n1 c1, .slice a2 n2 c2, .int .i64 cnt, .bool dn, .int .i64 am, .int .i64 fl], .int .i64 n] w fun r w' =>
      r = .returned (.tuple #[.agg #[.slice a1 n1 c1, .slice a2 n2 c2, .int .i64 cnt, .bool dn, .int .i64 (if n < 0 then am else n), .int .i64 fl], .int .i64 (if n < 0 then 2 else 0)]) ∧ Below w.heap.size w w' := by
  by_cases h : n < 0
  · rw [if_pos h, if_pos h]
    go_enter Tryz.func13, Tryz.ntmps13
    go_wp2
    refine bodyPost_ret (hd := rfl) (hR := ⟨rfl, ((Below.refl w.heap.size w).alloc (Nat.le_refl _) _).alloc (by simp) _⟩) (hr := ?_)
    simp [results, Tryz.results13, go_sem]
  · rw [if_neg h, if_neg h]
    go_enter Tryz.func13, Tryz.ntmps13
    go_wp2
    refine bodyPost_ret (hd := rfl) (hR := ⟨rfl, ((Below.refl w.heap.size w).alloc (Nat.le_refl _) _).alloc (by simp) _⟩) (hr := ?_)
    simp [results, Tryz.results13, go_sem]
theorem rarmD {w : World} {Q : Nat → Prop} {a1 a2 : Option Addr} {n1 c1 n2 c2 : Nat} {D : DS} (h : RD w Q a1 a2 n1 c1 n2 c2 D) (n : Int) (hn : n ≤ 9223372036854775807) :
    Calls Tryz.prog 13 #[.agg (refA a1 a2 n1 c1 n2 c2 D), .int .i64 n] w fun r w' => r = .returned (.tuple #[.agg (refA a1 a2 n1 c1 n2 c2 (D.armed n)), .int .i64 (armE n : Int)]) ∧ RD w' Q a1 a2 n1 c1 n2 c2 (D.armed n) ∧ Below w.heap.size w w' := by
  refine (armed_ref a1 a2 n1 c1 n2 c2 D.n (fuseI D.arm) (fuseI D.fail) D.gone n w).mono ?_
  rintro r w' ⟨rfl, b⟩
  have R := h.below b
  by_cases q : n < 0
  · have e : D.armed n = D := by unfold DS.armed; rw [if_pos q]
    have e2 : armE n = 2 := by unfold armE; rw [if_pos q]
    rw [e, e2, if_pos q, if_pos q]
    exact ⟨rfl, R, b⟩
  · have e : D.armed n = { D with arm := ⟨true, n.toNat⟩ } := by unfold DS.armed; rw [if_neg q]
    have e2 : armE n = 0 := by unfold armE; rw [if_neg q]
    rw [e, e2, if_neg q, if_neg q]
    refine ⟨?_, ⟨R.safe, R.wr, ⟨R.ok.len, R.ok.lo, R.ok.hi, R.ok.each, by show n.toNat < _; omega, R.ok.fail⟩⟩, b⟩
    unfold refA fuseI
    simp
    omega
end Go.Proofs.YtdkaacjeogifdaaGreat.Dk

/-
  What a disk has.
-/
namespace Go.Proofs.YtdkaacjeogifdaaGreat.Dk
open Go.RowKit

theorem image_at {g : Nat} {w : World} {D : DS} {F : Nat → Prop} (hd : IsDisk w g D F) :
    Calls Tryz.prog 20 #[.pointer (some ⟨g, 0, none⟩)] w fun e w' => ∃ gi ci, e = .returned (.slice (some ⟨gi, 0, none⟩) (D.nb * 4096) ci) ∧ w.heap.size ≤ gi ∧ RowB w' gi ci D.image ∧ Below w.heap.size w w' := by
  obtain ⟨gd, cd, vu, ps, h⟩ := hd
  have c := isMade_at h
  obtain ⟨_, c1, _⟩ := box_cells h.box
  have hlo := h.ok.lo
  have hhi := h.ok.hi
  go_enter Tryz.func20, Tryz.ntmps20
  go_wp2_with fail
  refine c.mono ?_
  rintro e w' ⟨rfl, rfl⟩
  go_wp2_with fail
  refine (clone_at cd (D.nb * 4096) ⟨gd, 0, none⟩ D.dur w h.ok.len (by omega) (by omega) h.dur.rd).mono ?_
  rintro e w1 ⟨gi, ci, rfl, hgi, r1, b1⟩
  have h1 := h.below b1
  have hneq : ∀ k (hk : k < ps.length), ps[k].2.1 ≠ gi := fun k hk => by
    have := h.flt _ (h.each k hk (by rw [← h.len]; exact hk)).2.2.2
    omega
  clear c c1
  go_wp2_with fail
  refine (carryAll_at h1 gi ci (D.nb * 4096) D.dur r1 rfl h.ok.len hneq).mono ?_
  rintro e w2 ⟨rfl, r2, u2⟩
  have B2 : Below w.heap.size w w2 := b1.trans (u2.below (fun i hi => by rw [hi]; exact hgi) b1.size)
  clear u2 r1 b1 h1 hneq
  go_wp2
  go_ret
  exact ⟨gi, ci, rfl, hgi, r2, B2⟩
end Go.Proofs.YtdkaacjeogifdaaGreat.Dk

/-
  What stands while ReplayTells walks: the copies of the images, the law's boxes, both disks.
-/
namespace Go.Proofs.YtdkaacjeogifdaaGreat.H
open Go.RowKit
open Go.Proofs.YtdkaacjeogifdaaGreat.Su (wi)
open Go.Proofs.YtdkaacjeogifdaaGreat.Rc (Imgs CpJ CP cpC)
open Go.Proofs.YtdkaacjeogifdaaGreat.Dk (Box DS RD refA set6 IsDisk Upd)

theorem ims_imgs {w : World} {a : Option Addr} {n cap : Nat} {L : List ImD} (h : ImsA w a n cap L) : Imgs w a (pl L) := fun hp => by
  have hq : 0 < (L.map (·.1)).length := by simpa [pl] using hp
  obtain ⟨g, o, rfl, hc⟩ := h.cells hq
  refine ⟨g, o, rfl, fun j hj => ?_⟩
  have hjl : j < L.length := by simpa [pl] using hj
  obtain ⟨h1, h2⟩ := hc j (by simpa using hjl)
  obtain ⟨d1, d2, d3, d4⟩ := h.data L[j] (List.getElem_mem hjl)
  obtain ⟨n1, n2⟩ := h.caps L[j] (List.getElem_mem hjl)
  simp only [List.getElem_map] at h1 h2
  simp only [pl, List.getElem_map]
  exact ⟨h1, L[j].1.2.1, L[j].1.2.2.2, by rw [d2]; exact h2, by rw [d2]; exact n1, n2, d4, d1⟩
def cpI (p : CP) : ImD := match p.v with
  | .slice a n c => ((p.b, a, n, c), p.xs)
  | _ => ((p.b, none, 0, 0), p.xs)
theorem cp_ims {w : World} {B m : Nat} {a : Option Addr} {n c : Nat} {ps : List CP} (ho : w.ownsRow B 57 2 (.slice a n c) m (cpC ps)) (hj : CpJ B w ps) (hm : ps.length = m) : ∃ L' : List ImD, pl L' = ps.map (fun p => (p.b, p.xs)) ∧ L'.length = m ∧ CellsI w a (L'.map (·.1)) ∧ (∀ p ∈ L', Rc.Rd w p.1.2.1 p.2 ∧ p.2.length = p.1.2.2.1 ∧ ∀ ad, p.1.2.1 = some ad → B ≤ ad.block ∧ ad.block < w.heap.size) ∧ (∀ ad, a = some ad → B ≤ ad.block) := by
  have hv : ∀ p ∈ ps, ∃ x k, p.v = .slice x p.xs.length k ∧ Rc.Rd w x p.xs ∧ ∀ ad, x = some ad → B ≤ ad.block ∧ ad.block < w.heap.size := fun p hp => by
    have hr := hj.rows p hp
    obtain ⟨x, k, h1, h2, h3, h4, h5, h6⟩ := Rc.owns_rd hr
    refine ⟨x, k, h1, h5, fun ad e => ?_⟩
    rcases hr.2 with ⟨h7, _⟩ | ⟨g, cap, cur, h7, hB, hg, _⟩
    · rw [h1] at h7
      simp at h7
      rw [h7.1] at e
      cases e
    · rw [h1] at h7
      simp at h7
      rw [h7.1] at e
      injection e with e
      subst e
      exact ⟨hB, (Array.getElem?_eq_some_iff.1 hg).1⟩
  refine ⟨ps.map cpI, ?_, by rw [List.length_map, hm], fun hp => ?_, fun q hq => ?_, fun ad e => ?_⟩
  · unfold pl
    rw [List.map_map]
    refine List.map_congr_left fun p hp => ?_
    obtain ⟨x, k, h1, _⟩ := hv p hp
    simp [cpI, h1]
  · have hq : 0 < ps.length := by simpa using hp
    obtain ⟨g, rfl, _, _, hc⟩ := Rc.owns_cells ho (by omega)
    refine ⟨g, 0, rfl, fun j hjl => ?_⟩
    have hjq : j < ps.length := by simpa using hjl
    obtain ⟨x, k, h1, _⟩ := hv ps[j] (List.getElem_mem hjq)
    obtain ⟨k0, k1⟩ := Rc.cpC_at ps j hjq
    simp only [List.getElem_map]
    constructor
    · rw [Nat.zero_add, hc _ (by omega), k0]
      simp [cpI, h1]
    · rw [Nat.zero_add, hc _ (by omega), k1]
      simp [cpI, h1]
  · obtain ⟨p, hp, rfl⟩ := List.mem_map.1 hq
    obtain ⟨x, k, h1, h2, h3⟩ := hv p hp
    have e : cpI p = ((p.b, x, p.xs.length, k), p.xs) := by simp [cpI, h1]
    rw [e]
    exact ⟨h2, rfl, h3⟩
  · subst e
    rcases ho.2 with ⟨h1, _⟩ | ⟨g, cap, cur, h1, hB, _⟩
    · simp at h1
    · simp at h1
      rw [h1.1]
      exact hB
/-- what Do does hangs on the blocks and the bytes alone -/
theorem fits_pl (nb : Nat) (L : List ImD) (h : ∀ p ∈ L, p.2.length = p.1.2.2.1) : (L.map (·.1)).all (fits nb) = (pl L).all fun p => wi p.1 2 ((nb : Int) - 1) && decide (p.2.length = 4096) := by
  induction L with
  | nil => rfl
  | cons p r ih =>
    have := ih (fun q hq => h q (List.mem_cons_of_mem _ hq))
    simp only [pl, List.map_cons, List.all_cons] at this ⊢
    rw [this, h p (List.mem_cons_self ..)]
    rfl
theorem doR_pl (D : DS) (L L' : List ImD) (o : Option (List UInt8)) (slot : Int) (e : pl L' = pl L) (h : ∀ p ∈ L, p.2.length = p.1.2.2.1) (h' : ∀ p ∈ L', p.2.length = p.1.2.2.1) : doR D L' o slot = doR D L o slot := by
  cases o with
  | none => rfl
  | some sb =>
    unfold doR
    rw [fits_pl D.nb L h, fits_pl D.nb L' h', e]

/-- the law's two boxes -/
structure TS (w u : World) (LA SB : Array Value) : Prop where
  l : Box u w.heap.size LA 24
  s : Box u (w.heap.size + 1) SB 28
  bel : Below w.heap.size w u
theorem TS.below {w u u' : World} {LA SB : Array Value} (h : TS w u LA SB) (b : Below u.heap.size u u') : TS w u' LA SB := ⟨h.l.below b, h.s.below b, h.bel.trans (b.mono h.bel.size)⟩
/-- both disks beside them -/
structure TT (w u : World) (LA SB : Array Value) (g gx k : Nat) (F : Nat → Prop) (a1 a2 : Option Addr) (c1 n2 c2 : Nat) (D : DS) : Prop where
  t : TS w u LA SB
  d : IsDisk u g D F
  r : RD u (fun i => ¬ F i) a1 a2 64 c1 n2 c2 D
  x : Box u gx (refA a1 a2 64 c1 n2 c2 D) 41
  nx : ¬ F gx
  lo : ∀ i, F i → k ≤ i
  kk : w.heap.size + 2 ≤ k
theorem TT.below {w u u' : World} {LA SB : Array Value} {g gx k : Nat} {F : Nat → Prop} {a1 a2 : Option Addr} {c1 n2 c2 : Nat} {D : DS} (h : TT w u LA SB g gx k F a1 a2 c1 n2 c2 D) (b : Below u.heap.size u u') : TT w u' LA SB g gx k F a1 a2 c1 n2 c2 D :=
  ⟨h.t.below b, h.d.below b, h.r.below b, h.x.below b, h.nx, h.lo, h.kk⟩
/-- the program's disk has turned -/
structure TU (w u : World) (LA SB : Array Value) (g gx k : Nat) (F : Nat → Prop) (a1 a2 : Option Addr) (c1 n2 c2 : Nat) (D D' : DS) : Prop where
  t : TS w u LA SB
  d : IsDisk u g D' F
  r : RD u (fun i => ¬ F i) a1 a2 64 c1 n2 c2 D
  x : Box u gx (refA a1 a2 64 c1 n2 c2 D) 41
  nx : ¬ F gx
  lo : ∀ i, F i → k ≤ i
  kk : w.heap.size + 2 ≤ k
theorem TT.turn {w u u' : World} {LA SB : Array Value} {g gx k : Nat} {F F' : Nat → Prop} {a1 a2 : Option Addr} {c1 n2 c2 : Nat} {D D' : DS} (h : TT w u LA SB g gx k F a1 a2 c1 n2 c2 D) (hu : Upd F u u') (hd : IsDisk u' g D' F') (hF : ∀ i, F' i → F i ∨ u.heap.size ≤ i) (hk : k ≤ u.heap.size) : TU w u' LA SB g gx k F' a1 a2 c1 n2 c2 D D' := by
  have hl : ¬ F w.heap.size := fun e => by have := h.lo _ e; have := h.kk; omega
  have hs : ¬ F (w.heap.size + 1) := fun e => by have := h.lo _ e; have := h.kk; omega
  have hb : Below w.heap.size u u' := hu.below (fun i hi => by have := h.lo i hi; have := h.kk; omega) h.t.bel.size
  refine ⟨⟨hu.box h.t.l hl, hu.box h.t.s hs, h.t.bel.trans hb⟩, hd, h.r.upd hu hF, hu.box h.x h.nx, fun e => ?_, fun i hi => ?_, h.kk⟩
  · rcases hF _ e with e | e
    · exact h.nx e
    · have := h.x.lt
      omega
  · rcases hF i hi with e | e
    · exact h.lo i e
    · omega
theorem TU.below {w u u' : World} {LA SB : Array Value} {g gx k : Nat} {F : Nat → Prop} {a1 a2 : Option Addr} {c1 n2 c2 : Nat} {D D' : DS} (h : TU w u LA SB g gx k F a1 a2 c1 n2 c2 D D') (b : Below u.heap.size u u') : TU w u' LA SB g gx k F a1 a2 c1 n2 c2 D D' :=
  ⟨h.t.below b, h.d.below b, h.r.below b, h.x.below b, h.nx, h.lo, h.kk⟩
/-- the document's disk has turned, too, and is laid into its box -/
theorem TU.next {w u u' : World} {LA SB : Array Value} {g gx k : Nat} {F : Nat → Prop} {a1 a2 a1' a2' : Option Addr} {c1 n2 c2 c1' n2' c2' : Nat} {D D' : DS} (h : TU w u LA SB g gx k F a1 a2 c1 n2 c2 D D') (b : Below u.heap.size u u') (r' : RD u' (fun i => ¬ F i) a1' a2' 64 c1' n2' c2' D') (hx : w.heap.size + 2 ≤ gx) : TT w (set6D u' gx a1' a2' 64 c1' n2' c2' D') LA SB g gx k F a1' a2' c1' n2' c2' D' := by
  have h' := h.below b
  have hd := h'.x
  unfold refA at hd
  have n1 : w.heap.size ≠ gx := by omega
  have n2 : w.heap.size + 1 ≠ gx := by omega
  refine ⟨⟨?_, ?_, ?_⟩, ?_, r'.o49 (Dk.O49.set6 hd _ _ _ _ _ _), ?_, h.nx, h.lo, h.kk⟩
  · unfold set6D set6
    exact (((((h'.t.l.away n1).away n1).away n1).away n1).away n1).away n1
  · unfold set6D set6
    exact (((((h'.t.s.away n2).away n2).away n2).away n2).away n2).away n2
  · unfold set6D set6
    repeat (refine Below.setCell ?_ (by show w.heap.size ≤ gx; omega) _)
    exact h'.t.bel
  · refine h'.d.kept (fun i hi => ?_) (by simp [set6D, set6])
    have hne : i ≠ gx := fun e => h.nx (e ▸ hi)
    unfold set6D set6
    repeat rw [heap_setCell_other _ _ _ _ (by exact hne)]
  · unfold set6D set6 refA
    exact (((((hd.store 0 _).store 1 _).store 2 _).store 3 _).store 4 _).store 5 _
end Go.Proofs.YtdkaacjeogifdaaGreat.H
