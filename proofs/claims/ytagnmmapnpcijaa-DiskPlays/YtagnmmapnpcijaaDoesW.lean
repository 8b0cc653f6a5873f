/-
  The law's own 'does': Write.
-/
import Derived.Test.YtagnmmapnpcijaaDoesN
namespace Go.Proofs.Ytagnmmapnpcijaa
open Go.RowKit

variable {K : List (Nat × Obj)}

theorem upd_of_grown {w w' : World} {g : Nat} (h : w.grownBy w' (some g)) : Upd (fun i => i = g) w w' := ⟨h.os, h.tape, h.output, h.size, fun i hi hn => h.block i hi (fun e => hn (by cases e; rfl))⟩
theorem Sit.other {w0 w w' : World} {g bx gl : Nat} {D : DS} {v4 op v6 v8 : Array Value} {F : Nat → Prop} (h : Sit K w0 w g bx D v4 op v6 v8 F) (u : Upd (fun i => i = gl) w w') (hl : bx + 4 ≤ gl) (hF : ¬ F gl) : Sit K w0 w' g bx D v4 op v6 v8 F := by
  have z := h.ge
  exact ⟨h.d.upd u (fun i hi e => hF (e ▸ hi)), h.f0, h.bel.trans (u.below (fun i e => by omega) h.bel.size), h.ge, h.nf, h.b4.upd u (by omega), h.b5.upd u (by omega), h.b6.upd u (by omega), h.b8.upd u (by omega), fun p hp => ⟨(u.block p.1 (by have := (h.k p hp).2.2; have := h.b4.lt; omega) (by have := (h.k p hp).2.2; omega)).trans (h.k p hp).1, (h.k p hp).2⟩⟩
theorem set6_other (w : World) (g i : Nat) (x0 x1 x2 x3 x4 x5 : Value) (h : i ≠ g) : (set6 w g x0 x1 x2 x3 x4 x5).heap[i]? = w.heap[i]? := by
  unfold set6
  rw [heap_setCell_other _ ⟨g, 5, none⟩ i _ h, heap_setCell_other _ ⟨g, 4, none⟩ i _ h, heap_setCell_other _ ⟨g, 3, none⟩ i _ h, heap_setCell_other _ ⟨g, 2, none⟩ i _ h, heap_setCell_other _ ⟨g, 1, none⟩ i _ h, heap_setCell_other _ ⟨g, 0, none⟩ i _ h]

set_option maxRecDepth 100000 in
set_option maxHeartbeats 1000000 in
theorem does_write_a {w0 w : World} {g : Nat} {D : DS} {v : Value} (h : Both K w0 w g D v) (n sz b : Int) (ak : Option Addr) (nk ck : Nat) (m : Int) (hlim : D.uf.length ≤ 1000000) (hcnt : D.n ≤ 1000000) (hu : 5000 < wrap64 (4096 + sz)) :
    Calls Try.prog 28 #[.pointer (some ⟨g, 0, none⟩), v, .agg #[.int .i64 1, .int .i64 n, .int .i64 sz, .int .i64 b, .slice ak nk ck, .int .u8 m]] w fun r w' => ∃ v', r = .returned (.tuple #[v', .bool true]) ∧ Both K w0 w' g (D.write n (madeL b 5000)) v' := by
  obtain ⟨F, a1, a2, n1, c1, n2, c2, rfl, hd, f0, B, R, kk⟩ := h
  obtain ⟨s0, B0⟩ := sit_start hd f0 B kk #[.int .i64 1, .int .i64 n, .int .i64 sz, .int .i64 b, .slice ak nk ck, .int .u8 m] (refA a1 a2 n1 c1 n2 c2 D) zero49
  have R0 := R.below B0
  unfold refA zero49 at s0 R0
  have cM := made_at b 5000 ((((w.alloc (.cells (refA a1 a2 n1 c1 n2 c2 D) 49)).alloc (.cells #[.int .i64 1, .int .i64 n, .int .i64 sz, .int .i64 b, .slice ak nk ck, .int .u8 m] 53)).alloc (.cells zero49 49)).alloc (.cells (refA a1 a2 n1 c1 n2 c2 D) 49)) (by omega)
  unfold refA zero49 at cM
  have hxl : (madeL b 5000).length = 5000 := madeK_length b 5000 5000
  obtain ⟨x, hx⟩ : ∃ x, x = madeL b 5000 := ⟨_, rfl⟩
  rw [← hx] at cM hxl
  rw [← hx]
  have Hx : Hid _ := hx
  clear kk hd f0 B R B0 hx
  unfold refA
  go_enter Try.func28, Try.ntmps28
  go_wp2_with fail
  refine cM.mono ?_
  rintro r w1 ⟨rfl, o1, b1⟩
  have s1 := s0.below b1
  have R1 := R0.below b1
  obtain ⟨gx, hgx⟩ : ∃ gx, gx = ((((w.alloc (.cells #[.slice a1 n1 c1, .slice a2 n2 c2, .int .i64 (D.n : Int), .bool D.gone, .int .i64 (fuseI D.arm), .int .i64 (fuseI D.fail)] 49)).alloc (.cells #[.int .i64 1, .int .i64 n, .int .i64 sz, .int .i64 b, .slice ak nk ck, .int .u8 m] 53)).alloc (.cells #[.slice none 0 0, .slice none 0 0, .int .i64 0, .bool false, .int .i64 0, .int .i64 0] 49)).alloc (.cells #[.slice a1 n1 c1, .slice a2 n2 c2, .int .i64 (D.n : Int), .bool D.gone, .int .i64 (fuseI D.arm), .int .i64 (fuseI D.fail)] 49)).heap.size := ⟨_, rfl⟩
  have gx1 : w.heap.size + 4 ≤ gx := by rw [hgx]; simp
  have gxF : ¬ F gx := fun h => by have := s0.d.flt _ h; omega
  rw [← hgx] at o1
  rw [← hgx]
  obtain ⟨bx, hbx⟩ : ∃ bx, bx = w.heap.size := ⟨_, rfl⟩
  rw [← hbx] at s1 gx1
  rw [← hbx]
  clear cM s0 R0 b1 hgx hbx
  have cL := lent_row 5000 5000 (some ⟨gx, 0, none⟩) x w1 hxl (by omega) o1.rd (fun h => by cases h)
  have S1 : Hid _ := s1
  have HR1 : Hid _ := R1
  have O1 : Hid _ := o1
  clear s1 R1 o1
  go_wp2_with fail
  refine cL.mono ?_
  rintro r w2 ⟨gl, cap, rfl, hc1, hc2, hgl, row, b2⟩
  have s2 := S1.out.below b2
  have glF : ¬ F gl := fun h => by have := S1.out.d.flt _ h; omega
  have o2 : Own w2 gx x := Own.below O1.out b2 (Own.lt O1.out)
  have gxl : gx < w1.heap.size := Own.lt O1.out
  have glb : bx + 4 ≤ gl := by omega
  have lt2 := row.lt
  have cd := write_at s2.d n (some ⟨gl, 0, none⟩) 5000 cap x hxl ⟨hlim, hcnt⟩ row.rd.head (fun ad h => by cases h; exact glF)
  obtain ⟨q0, q1, q2, q3, q4, q5⟩ := s2.b5.all6
  have S2 : Hid _ := s2
  have O2 : Hid _ := o2
  have Row : Hid (RowB w2 gl cap (x ++ [77, 78, 79])) := row
  have B2 : Hid _ := b2
  clear cL S1 O1 s2 o2 row b2 hu
  go_wp2_with fail
  refine cd.mono ?_
  rintro r w3 ⟨rfl, ⟨F3, hd3, hF3⟩, u3⟩
  have s3 := S2.out.upd hd3 hF3 u3
  have gl3 : ¬ F3 gl := fun h => by rcases hF3 _ h with q | q; exact glF q; omega
  have gx3 : ¬ F3 gx := fun h => by rcases hF3 _ h with q | q; exact gxF q; have := B2.out.size; omega
  have row3 : RowB w3 gl cap (x ++ [77, 78, 79]) := RowB.same Row.out (u3.block gl lt2 glF)
  have o3 : Own w3 gx x := (u3.block gx (by have := B2.out.size; omega) gxF).trans O2.out
  have R3 : RD w3 (fun i => ¬ F3 i ∧ i ≠ gl) a1 a2 n1 c1 n2 c2 D := HR1.out.move (fun i hi hq _ => (u3.block i (by have := B2.out.size; omega) hq).trans (B2.out.block i hi)) (fun i hi hq => ⟨fun h => by rcases hF3 _ h with q | q; exact hq q; have := B2.out.size; omega, by omega⟩)
  clear cd S2 HR1 O2 Row hd3 hF3 u3 q0 q1 q2 q3 q4 q5
  have cr := rwriteD R3 (fun i hi => ⟨fun h => by have := s3.d.flt _ h; omega, by have := row3.lt; omega⟩) hlim hcnt n (some ⟨gx, 0, none⟩) 5000 5000 x hxl (by omega) o3.rd
  unfold refA at cr
  obtain ⟨p0, p1, p2, p3, p4, p5⟩ := s3.b4.all6
  obtain ⟨q0, q1, q2, q3, q4, q5⟩ := s3.b5.all6
  have S3 : Hid _ := s3
  have O3 : Hid _ := o3
  have Row3 : Hid (RowB w3 gl cap (x ++ [77, 78, 79])) := row3
  clear s3 o3 row3 R3
  go_wp2_with fail
  refine cr.mono ?_
  rintro r w4 ⟨a2', n2', c2', rfl, R4, b4⟩
  have s4 := S3.out.below b4
  have o4 : Own w4 gx x := Own.below O3.out b4 (Own.lt O3.out)
  have row4 : RowB w4 gl cap (x ++ [77, 78, 79]) := RowB.same Row3.out (b4.block gl (RowB.lt Row3.out))
  clear cr S3 O3 Row3 p0 p1 p2 p3 p4 p5 q0 q1 q2 q3 q4 q5
  have s5 := s4.set8 (.slice a1 n1 c1) (.slice a2' n2' c2') (.int .i64 ((D.write n x).n : Int)) (.bool (D.write n x).gone) (.int .i64 (fuseI (D.write n x).arm)) (.int .i64 (fuseI (D.write n x).fail))
  have R5 := R4.set6 s4.b8 (.slice a1 n1 c1) (.slice a2' n2' c2') (.int .i64 ((D.write n x).n : Int)) (.bool (D.write n x).gone) (.int .i64 (fuseI (D.write n x).arm)) (.int .i64 (fuseI (D.write n x).fail))
  have keep : ∀ i, bx + 4 ≤ i → (set6 w4 (bx + 3) (.slice a1 n1 c1) (.slice a2' n2' c2') (.int .i64 ((D.write n x).n : Int)) (.bool (D.write n x).gone) (.int .i64 (fuseI (D.write n x).arm)) (.int .i64 (fuseI (D.write n x).fail))).heap[i]? = w4.heap[i]? := fun i hi => set6_other w4 (bx + 3) i _ _ _ _ _ _ (by omega)
  have o5 : Own _ gx x := (keep gx gx1).trans o4
  have row5 := row4.same (keep gl glb)
  have cK := kept_at gl cap 5000 5000 (some ⟨gx, 0, none⟩) x _ hxl (by omega) hc1 row5.rd o5.rd
  obtain ⟨cur, hcur, _, _, hcs, _⟩ := row5
  have cO := over_at gl 5000 cap cur _ hcur hcs hc1 (by omega) hc2
  obtain ⟨q0, q1, q2, q3, q4, q5⟩ := s4.b8.all6
  have e0 := s4.b8.frozen 0
  have e1 := s4.b8.frozen 1
  have e2 := s4.b8.frozen 2
  have e3 := s4.b8.frozen 3
  have e4 := s4.b8.frozen 4
  have e5 := s4.b8.frozen 5
  unfold set6 at cK cO s5 R5
  have S5 : Hid _ := s5
  have HR5 : Hid _ := R5
  clear s4 s5 R4 R5 o4 o5 row4 keep hcur
  rw [show bx + 1 + 1 + 1 = bx + 3 from rfl, show bx + 1 + 1 = bx + 2 from rfl]
  go_wp2_with fail
  refine cK.mono ?_
  rintro r w5 ⟨rfl, rfl⟩
  clear cK q0 q1 q2 q3 q4 q5 e0 e1 e2 e3 e4 e5
  go_wp2_with fail
  refine cO.mono ?_
  rintro r w6 ⟨rfl, gr⟩
  have u6 := upd_of_grown gr
  have s6 := S5.out.other u6 glb gl3
  have R6 := HR5.out.move (w' := w6) (Q' := fun i => ¬ F3 i) (fun i hi hq _ => u6.block i hi hq.2) (fun i hi hq => hq.1)
  clear cO S5 HR5 gr u6
  have s7 := s6.set6 (.slice a1 n1 c1) (.slice a2' n2' c2') (.int .i64 ((D.write n x).n : Int)) (.bool (D.write n x).gone) (.int .i64 (fuseI (D.write n x).arm)) (.int .i64 (fuseI (D.write n x).fail))
  have R7 := R6.set6 s6.b6 (.slice a1 n1 c1) (.slice a2' n2' c2') (.int .i64 ((D.write n x).n : Int)) (.bool (D.write n x).gone) (.int .i64 (fuseI (D.write n x).arm)) (.int .i64 (fuseI (D.write n x).fail))
  obtain ⟨p0, p1, p2, p3, p4, p5⟩ := s6.b6.all6
  obtain ⟨q0, q1, q2, q3, q4, q5⟩ := s6.b8.all6
  have f0 := s6.b6.frozen 0
  have f1 := s6.b6.frozen 1
  have f2 := s6.b6.frozen 2
  have f3 := s6.b6.frozen 3
  have f4 := s6.b6.frozen 4
  have f5 := s6.b6.frozen 5
  have S7 : Hid _ := s7
  have HR7 : Hid _ := R7
  clear s6 s7 R6 R7
  go_wp2
  refine bodyPost_ret (v := .tuple #[.agg #[(.slice a1 n1 c1), (.slice a2' n2' c2'), (.int .i64 ((D.write n x).n : Int)), (.bool (D.write n x).gone), (.int .i64 (fuseI (D.write n x).arm)), (.int .i64 (fuseI (D.write n x).fail))], .bool true]) (hd := rfl) (hR := ⟨_, rfl, F3, a1, a2', n1, c1, n2', c2', rfl, S7.out.d, S7.out.f0, S7.out.bel, HR7.out, S7.out.kk⟩) (hr := ?_)
  simp [results, Try.results28, go_sem, p0, p1, p2, p3, p4, p5]

set_option maxRecDepth 100000 in
set_option maxHeartbeats 1000000 in
theorem does_write_b {w0 w : World} {g : Nat} {D : DS} {v : Value} (h : Both K w0 w g D v) (n sz b : Int) (ak : Option Addr) (nk ck : Nat) (m : Int) (hlim : D.uf.length ≤ 1000000) (hcnt : D.n ≤ 1000000) (L : Nat) (hu : wrap64 (4096 + sz) = (L : Int)) (hL : L ≤ 5000) :
    Calls Try.prog 28 #[.pointer (some ⟨g, 0, none⟩), v, .agg #[.int .i64 1, .int .i64 n, .int .i64 sz, .int .i64 b, .slice ak nk ck, .int .u8 m]] w fun r w' => ∃ v', r = .returned (.tuple #[v', .bool true]) ∧ Both K w0 w' g (D.write n (madeL b L)) v' := by
  obtain ⟨F, a1, a2, n1, c1, n2, c2, rfl, hd, f0, B, R, kk⟩ := h
  obtain ⟨s0, B0⟩ := sit_start hd f0 B kk #[.int .i64 1, .int .i64 n, .int .i64 sz, .int .i64 b, .slice ak nk ck, .int .u8 m] (refA a1 a2 n1 c1 n2 c2 D) zero49
  have R0 := R.below B0
  unfold refA zero49 at s0 R0
  have cM := made_at b L ((((w.alloc (.cells (refA a1 a2 n1 c1 n2 c2 D) 49)).alloc (.cells #[.int .i64 1, .int .i64 n, .int .i64 sz, .int .i64 b, .slice ak nk ck, .int .u8 m] 53)).alloc (.cells zero49 49)).alloc (.cells (refA a1 a2 n1 c1 n2 c2 D) 49)) (by omega)
  unfold refA zero49 at cM
  have hxl : (madeL b L).length = L := madeK_length b L L
  obtain ⟨x, hx⟩ : ∃ x, x = madeL b L := ⟨_, rfl⟩
  rw [← hx] at cM hxl
  rw [← hx]
  have Hx : Hid _ := hx
  clear kk hd f0 B R B0 hx
  unfold refA
  go_enter Try.func28, Try.ntmps28
  go_wp2_with fail
  refine cM.mono ?_
  rintro r w1 ⟨rfl, o1, b1⟩
  have s1 := s0.below b1
  have R1 := R0.below b1
  obtain ⟨gx, hgx⟩ : ∃ gx, gx = ((((w.alloc (.cells #[.slice a1 n1 c1, .slice a2 n2 c2, .int .i64 (D.n : Int), .bool D.gone, .int .i64 (fuseI D.arm), .int .i64 (fuseI D.fail)] 49)).alloc (.cells #[.int .i64 1, .int .i64 n, .int .i64 sz, .int .i64 b, .slice ak nk ck, .int .u8 m] 53)).alloc (.cells #[.slice none 0 0, .slice none 0 0, .int .i64 0, .bool false, .int .i64 0, .int .i64 0] 49)).alloc (.cells #[.slice a1 n1 c1, .slice a2 n2 c2, .int .i64 (D.n : Int), .bool D.gone, .int .i64 (fuseI D.arm), .int .i64 (fuseI D.fail)] 49)).heap.size := ⟨_, rfl⟩
  have gx1 : w.heap.size + 4 ≤ gx := by rw [hgx]; simp
  have gxF : ¬ F gx := fun h => by have := s0.d.flt _ h; omega
  rw [← hgx] at o1
  rw [← hgx]
  obtain ⟨bx, hbx⟩ : ∃ bx, bx = w.heap.size := ⟨_, rfl⟩
  rw [← hbx] at s1 gx1
  rw [← hbx]
  clear cM s0 R0 b1 hgx hbx
  have cL := lent_row L L (some ⟨gx, 0, none⟩) x w1 hxl (by omega) o1.rd (fun h => by cases h)
  have S1 : Hid _ := s1
  have HR1 : Hid _ := R1
  have O1 : Hid _ := o1
  clear s1 R1 o1
  go_wp2_with fail
  refine cL.mono ?_
  rintro r w2 ⟨gl, cap, rfl, hc1, hc2, hgl, row, b2⟩
  have s2 := S1.out.below b2
  have glF : ¬ F gl := fun h => by have := S1.out.d.flt _ h; omega
  have o2 : Own w2 gx x := Own.below O1.out b2 (Own.lt O1.out)
  have gxl : gx < w1.heap.size := Own.lt O1.out
  have glb : bx + 4 ≤ gl := by omega
  have lt2 := row.lt
  have cd := write_at s2.d n (some ⟨gl, 0, none⟩) L cap x hxl ⟨hlim, hcnt⟩ row.rd.head (fun ad h => by cases h; exact glF)
  obtain ⟨q0, q1, q2, q3, q4, q5⟩ := s2.b5.all6
  have S2 : Hid _ := s2
  have O2 : Hid _ := o2
  have Row : Hid (RowB w2 gl cap (x ++ [77, 78, 79])) := row
  have B2 : Hid _ := b2
  clear cL S1 O1 s2 o2 row b2 hu
  go_wp2_with fail
  refine cd.mono ?_
  rintro r w3 ⟨rfl, ⟨F3, hd3, hF3⟩, u3⟩
  have s3 := S2.out.upd hd3 hF3 u3
  have gl3 : ¬ F3 gl := fun h => by rcases hF3 _ h with q | q; exact glF q; omega
  have gx3 : ¬ F3 gx := fun h => by rcases hF3 _ h with q | q; exact gxF q; have := B2.out.size; omega
  have row3 : RowB w3 gl cap (x ++ [77, 78, 79]) := RowB.same Row.out (u3.block gl lt2 glF)
  have o3 : Own w3 gx x := (u3.block gx (by have := B2.out.size; omega) gxF).trans O2.out
  have R3 : RD w3 (fun i => ¬ F3 i ∧ i ≠ gl) a1 a2 n1 c1 n2 c2 D := HR1.out.move (fun i hi hq _ => (u3.block i (by have := B2.out.size; omega) hq).trans (B2.out.block i hi)) (fun i hi hq => ⟨fun h => by rcases hF3 _ h with q | q; exact hq q; have := B2.out.size; omega, by omega⟩)
  clear cd S2 HR1 O2 Row hd3 hF3 u3 q0 q1 q2 q3 q4 q5
  have cr := rwriteD R3 (fun i hi => ⟨fun h => by have := s3.d.flt _ h; omega, by have := row3.lt; omega⟩) hlim hcnt n (some ⟨gx, 0, none⟩) L L x hxl (by omega) o3.rd
  unfold refA at cr
  obtain ⟨p0, p1, p2, p3, p4, p5⟩ := s3.b4.all6
  obtain ⟨q0, q1, q2, q3, q4, q5⟩ := s3.b5.all6
  have S3 : Hid _ := s3
  have O3 : Hid _ := o3
  have Row3 : Hid (RowB w3 gl cap (x ++ [77, 78, 79])) := row3
  clear s3 o3 row3 R3
  go_wp2_with fail
  refine cr.mono ?_
  rintro r w4 ⟨a2', n2', c2', rfl, R4, b4⟩
  have s4 := S3.out.below b4
  have o4 : Own w4 gx x := Own.below O3.out b4 (Own.lt O3.out)
  have row4 : RowB w4 gl cap (x ++ [77, 78, 79]) := RowB.same Row3.out (b4.block gl (RowB.lt Row3.out))
  clear cr S3 O3 Row3 p0 p1 p2 p3 p4 p5 q0 q1 q2 q3 q4 q5
  have s5 := s4.set8 (.slice a1 n1 c1) (.slice a2' n2' c2') (.int .i64 ((D.write n x).n : Int)) (.bool (D.write n x).gone) (.int .i64 (fuseI (D.write n x).arm)) (.int .i64 (fuseI (D.write n x).fail))
  have R5 := R4.set6 s4.b8 (.slice a1 n1 c1) (.slice a2' n2' c2') (.int .i64 ((D.write n x).n : Int)) (.bool (D.write n x).gone) (.int .i64 (fuseI (D.write n x).arm)) (.int .i64 (fuseI (D.write n x).fail))
  have keep : ∀ i, bx + 4 ≤ i → (set6 w4 (bx + 3) (.slice a1 n1 c1) (.slice a2' n2' c2') (.int .i64 ((D.write n x).n : Int)) (.bool (D.write n x).gone) (.int .i64 (fuseI (D.write n x).arm)) (.int .i64 (fuseI (D.write n x).fail))).heap[i]? = w4.heap[i]? := fun i hi => set6_other w4 (bx + 3) i _ _ _ _ _ _ (by omega)
  have o5 : Own _ gx x := (keep gx gx1).trans o4
  have row5 := row4.same (keep gl glb)
  have cK := kept_at gl cap L L (some ⟨gx, 0, none⟩) x _ hxl (by omega) hc1 row5.rd o5.rd
  obtain ⟨cur, hcur, _, _, hcs, _⟩ := row5
  have cO := over_at gl L cap cur _ hcur hcs hc1 (by omega) hc2
  obtain ⟨q0, q1, q2, q3, q4, q5⟩ := s4.b8.all6
  have e0 := s4.b8.frozen 0
  have e1 := s4.b8.frozen 1
  have e2 := s4.b8.frozen 2
  have e3 := s4.b8.frozen 3
  have e4 := s4.b8.frozen 4
  have e5 := s4.b8.frozen 5
  unfold set6 at cK cO s5 R5
  have S5 : Hid _ := s5
  have HR5 : Hid _ := R5
  clear s4 s5 R4 R5 o4 o5 row4 keep hcur
  rw [show bx + 1 + 1 + 1 = bx + 3 from rfl, show bx + 1 + 1 = bx + 2 from rfl]
  go_wp2_with fail
  refine cK.mono ?_
  rintro r w5 ⟨rfl, rfl⟩
  clear cK q0 q1 q2 q3 q4 q5 e0 e1 e2 e3 e4 e5
  go_wp2_with fail
  refine cO.mono ?_
  rintro r w6 ⟨rfl, gr⟩
  have u6 := upd_of_grown gr
  have s6 := S5.out.other u6 glb gl3
  have R6 := HR5.out.move (w' := w6) (Q' := fun i => ¬ F3 i) (fun i hi hq _ => u6.block i hi hq.2) (fun i hi hq => hq.1)
  clear cO S5 HR5 gr u6
  have s7 := s6.set6 (.slice a1 n1 c1) (.slice a2' n2' c2') (.int .i64 ((D.write n x).n : Int)) (.bool (D.write n x).gone) (.int .i64 (fuseI (D.write n x).arm)) (.int .i64 (fuseI (D.write n x).fail))
  have R7 := R6.set6 s6.b6 (.slice a1 n1 c1) (.slice a2' n2' c2') (.int .i64 ((D.write n x).n : Int)) (.bool (D.write n x).gone) (.int .i64 (fuseI (D.write n x).arm)) (.int .i64 (fuseI (D.write n x).fail))
  obtain ⟨p0, p1, p2, p3, p4, p5⟩ := s6.b6.all6
  obtain ⟨q0, q1, q2, q3, q4, q5⟩ := s6.b8.all6
  have f0 := s6.b6.frozen 0
  have f1 := s6.b6.frozen 1
  have f2 := s6.b6.frozen 2
  have f3 := s6.b6.frozen 3
  have f4 := s6.b6.frozen 4
  have f5 := s6.b6.frozen 5
  have S7 : Hid _ := s7
  have HR7 : Hid _ := R7
  clear s6 s7 R6 R7
  go_wp2
  refine bodyPost_ret (v := .tuple #[.agg #[(.slice a1 n1 c1), (.slice a2' n2' c2'), (.int .i64 ((D.write n x).n : Int)), (.bool (D.write n x).gone), (.int .i64 (fuseI (D.write n x).arm)), (.int .i64 (fuseI (D.write n x).fail))], .bool true]) (hd := rfl) (hR := ⟨_, rfl, F3, a1, a2', n1, c1, n2', c2', rfl, S7.out.d, S7.out.f0, S7.out.bel, HR7.out, S7.out.kk⟩) (hr := ?_)
  simp [results, Try.results28, go_sem, p0, p1, p2, p3, p4, p5]

set_option maxRecDepth 100000 in
set_option maxHeartbeats 1000000 in
theorem does_write_c {w0 w : World} {g : Nat} {D : DS} {v : Value} (h : Both K w0 w g D v) (n sz b : Int) (ak : Option Addr) (nk ck : Nat) (m : Int) (hlim : D.uf.length ≤ 1000000) (hcnt : D.n ≤ 1000000) (hu : wrap64 (4096 + sz) < 0) :
    Calls Try.prog 28 #[.pointer (some ⟨g, 0, none⟩), v, .agg #[.int .i64 1, .int .i64 n, .int .i64 sz, .int .i64 b, .slice ak nk ck, .int .u8 m]] w fun r w' => ∃ v', r = .returned (.tuple #[v', .bool true]) ∧ Both K w0 w' g (D.write n (madeL b 0)) v' := by
  obtain ⟨F, a1, a2, n1, c1, n2, c2, rfl, hd, f0, B, R, kk⟩ := h
  obtain ⟨s0, B0⟩ := sit_start hd f0 B kk #[.int .i64 1, .int .i64 n, .int .i64 sz, .int .i64 b, .slice ak nk ck, .int .u8 m] (refA a1 a2 n1 c1 n2 c2 D) zero49
  have R0 := R.below B0
  unfold refA zero49 at s0 R0
  have cM := made_at b 0 ((((w.alloc (.cells (refA a1 a2 n1 c1 n2 c2 D) 49)).alloc (.cells #[.int .i64 1, .int .i64 n, .int .i64 sz, .int .i64 b, .slice ak nk ck, .int .u8 m] 53)).alloc (.cells zero49 49)).alloc (.cells (refA a1 a2 n1 c1 n2 c2 D) 49)) (by omega)
  unfold refA zero49 at cM
  have hxl : (madeL b 0).length = 0 := madeK_length b 0 0
  obtain ⟨x, hx⟩ : ∃ x, x = madeL b 0 := ⟨_, rfl⟩
  rw [← hx] at cM hxl
  rw [← hx]
  have Hx : Hid _ := hx
  clear kk hd f0 B R B0 hx
  unfold refA
  go_enter Try.func28, Try.ntmps28
  go_wp2_with fail
  refine cM.mono ?_
  rintro r w1 ⟨rfl, o1, b1⟩
  have s1 := s0.below b1
  have R1 := R0.below b1
  obtain ⟨gx, hgx⟩ : ∃ gx, gx = ((((w.alloc (.cells #[.slice a1 n1 c1, .slice a2 n2 c2, .int .i64 (D.n : Int), .bool D.gone, .int .i64 (fuseI D.arm), .int .i64 (fuseI D.fail)] 49)).alloc (.cells #[.int .i64 1, .int .i64 n, .int .i64 sz, .int .i64 b, .slice ak nk ck, .int .u8 m] 53)).alloc (.cells #[.slice none 0 0, .slice none 0 0, .int .i64 0, .bool false, .int .i64 0, .int .i64 0] 49)).alloc (.cells #[.slice a1 n1 c1, .slice a2 n2 c2, .int .i64 (D.n : Int), .bool D.gone, .int .i64 (fuseI D.arm), .int .i64 (fuseI D.fail)] 49)).heap.size := ⟨_, rfl⟩
  have gx1 : w.heap.size + 4 ≤ gx := by rw [hgx]; simp
  have gxF : ¬ F gx := fun h => by have := s0.d.flt _ h; omega
  rw [← hgx] at o1
  rw [← hgx]
  obtain ⟨bx, hbx⟩ : ∃ bx, bx = w.heap.size := ⟨_, rfl⟩
  rw [← hbx] at s1 gx1
  rw [← hbx]
  clear cM s0 R0 b1 hgx hbx
  have cL := lent_row 0 0 (some ⟨gx, 0, none⟩) x w1 hxl (by omega) o1.rd (fun h => by cases h)
  have S1 : Hid _ := s1
  have HR1 : Hid _ := R1
  have O1 : Hid _ := o1
  clear s1 R1 o1
  go_wp2_with fail
  refine cL.mono ?_
  rintro r w2 ⟨gl, cap, rfl, hc1, hc2, hgl, row, b2⟩
  have s2 := S1.out.below b2
  have glF : ¬ F gl := fun h => by have := S1.out.d.flt _ h; omega
  have o2 : Own w2 gx x := Own.below O1.out b2 (Own.lt O1.out)
  have gxl : gx < w1.heap.size := Own.lt O1.out
  have glb : bx + 4 ≤ gl := by omega
  have lt2 := row.lt
  have cd := write_at s2.d n (some ⟨gl, 0, none⟩) 0 cap x hxl ⟨hlim, hcnt⟩ row.rd.head (fun ad h => by cases h; exact glF)
  obtain ⟨q0, q1, q2, q3, q4, q5⟩ := s2.b5.all6
  have S2 : Hid _ := s2
  have O2 : Hid _ := o2
  have Row : Hid (RowB w2 gl cap (x ++ [77, 78, 79])) := row
  have B2 : Hid _ := b2
  clear cL S1 O1 s2 o2 row b2 hu
  go_wp2_with fail
  refine cd.mono ?_
  rintro r w3 ⟨rfl, ⟨F3, hd3, hF3⟩, u3⟩
  have s3 := S2.out.upd hd3 hF3 u3
  have gl3 : ¬ F3 gl := fun h => by rcases hF3 _ h with q | q; exact glF q; omega
  have gx3 : ¬ F3 gx := fun h => by rcases hF3 _ h with q | q; exact gxF q; have := B2.out.size; omega
  have row3 : RowB w3 gl cap (x ++ [77, 78, 79]) := RowB.same Row.out (u3.block gl lt2 glF)
  have o3 : Own w3 gx x := (u3.block gx (by have := B2.out.size; omega) gxF).trans O2.out
  have R3 : RD w3 (fun i => ¬ F3 i ∧ i ≠ gl) a1 a2 n1 c1 n2 c2 D := HR1.out.move (fun i hi hq _ => (u3.block i (by have := B2.out.size; omega) hq).trans (B2.out.block i hi)) (fun i hi hq => ⟨fun h => by rcases hF3 _ h with q | q; exact hq q; have := B2.out.size; omega, by omega⟩)
  clear cd S2 HR1 O2 Row hd3 hF3 u3 q0 q1 q2 q3 q4 q5
  have cr := rwriteD R3 (fun i hi => ⟨fun h => by have := s3.d.flt _ h; omega, by have := row3.lt; omega⟩) hlim hcnt n (some ⟨gx, 0, none⟩) 0 0 x hxl (by omega) o3.rd
  unfold refA at cr
  obtain ⟨p0, p1, p2, p3, p4, p5⟩ := s3.b4.all6
  obtain ⟨q0, q1, q2, q3, q4, q5⟩ := s3.b5.all6
  have S3 : Hid _ := s3
  have O3 : Hid _ := o3
  have Row3 : Hid (RowB w3 gl cap (x ++ [77, 78, 79])) := row3
  clear s3 o3 row3 R3
  go_wp2_with fail
  refine cr.mono ?_
  rintro r w4 ⟨a2', n2', c2', rfl, R4, b4⟩
  have s4 := S3.out.below b4
  have o4 : Own w4 gx x := Own.below O3.out b4 (Own.lt O3.out)
  have row4 : RowB w4 gl cap (x ++ [77, 78, 79]) := RowB.same Row3.out (b4.block gl (RowB.lt Row3.out))
  clear cr S3 O3 Row3 p0 p1 p2 p3 p4 p5 q0 q1 q2 q3 q4 q5
  have s5 := s4.set8 (.slice a1 n1 c1) (.slice a2' n2' c2') (.int .i64 ((D.write n x).n : Int)) (.bool (D.write n x).gone) (.int .i64 (fuseI (D.write n x).arm)) (.int .i64 (fuseI (D.write n x).fail))
  have R5 := R4.set6 s4.b8 (.slice a1 n1 c1) (.slice a2' n2' c2') (.int .i64 ((D.write n x).n : Int)) (.bool (D.write n x).gone) (.int .i64 (fuseI (D.write n x).arm)) (.int .i64 (fuseI (D.write n x).fail))
  have keep : ∀ i, bx + 4 ≤ i → (set6 w4 (bx + 3) (.slice a1 n1 c1) (.slice a2' n2' c2') (.int .i64 ((D.write n x).n : Int)) (.bool (D.write n x).gone) (.int .i64 (fuseI (D.write n x).arm)) (.int .i64 (fuseI (D.write n x).fail))).heap[i]? = w4.heap[i]? := fun i hi => set6_other w4 (bx + 3) i _ _ _ _ _ _ (by omega)
  have o5 : Own _ gx x := (keep gx gx1).trans o4
  have row5 := row4.same (keep gl glb)
  have cK := kept_at gl cap 0 0 (some ⟨gx, 0, none⟩) x _ hxl (by omega) hc1 row5.rd o5.rd
  obtain ⟨cur, hcur, _, _, hcs, _⟩ := row5
  have cO := over_at gl 0 cap cur _ hcur hcs hc1 (by omega) hc2
  obtain ⟨q0, q1, q2, q3, q4, q5⟩ := s4.b8.all6
  have e0 := s4.b8.frozen 0
  have e1 := s4.b8.frozen 1
  have e2 := s4.b8.frozen 2
  have e3 := s4.b8.frozen 3
  have e4 := s4.b8.frozen 4
  have e5 := s4.b8.frozen 5
  unfold set6 at cK cO s5 R5
  have S5 : Hid _ := s5
  have HR5 : Hid _ := R5
  clear s4 s5 R4 R5 o4 o5 row4 keep hcur
  rw [show bx + 1 + 1 + 1 = bx + 3 from rfl, show bx + 1 + 1 = bx + 2 from rfl]
  go_wp2_with fail
  refine cK.mono ?_
  rintro r w5 ⟨rfl, rfl⟩
  clear cK q0 q1 q2 q3 q4 q5 e0 e1 e2 e3 e4 e5
  go_wp2_with fail
  refine cO.mono ?_
  rintro r w6 ⟨rfl, gr⟩
  have u6 := upd_of_grown gr
  have s6 := S5.out.other u6 glb gl3
  have R6 := HR5.out.move (w' := w6) (Q' := fun i => ¬ F3 i) (fun i hi hq _ => u6.block i hi hq.2) (fun i hi hq => hq.1)
  clear cO S5 HR5 gr u6
  have s7 := s6.set6 (.slice a1 n1 c1) (.slice a2' n2' c2') (.int .i64 ((D.write n x).n : Int)) (.bool (D.write n x).gone) (.int .i64 (fuseI (D.write n x).arm)) (.int .i64 (fuseI (D.write n x).fail))
  have R7 := R6.set6 s6.b6 (.slice a1 n1 c1) (.slice a2' n2' c2') (.int .i64 ((D.write n x).n : Int)) (.bool (D.write n x).gone) (.int .i64 (fuseI (D.write n x).arm)) (.int .i64 (fuseI (D.write n x).fail))
  obtain ⟨p0, p1, p2, p3, p4, p5⟩ := s6.b6.all6
  obtain ⟨q0, q1, q2, q3, q4, q5⟩ := s6.b8.all6
  have f0 := s6.b6.frozen 0
  have f1 := s6.b6.frozen 1
  have f2 := s6.b6.frozen 2
  have f3 := s6.b6.frozen 3
  have f4 := s6.b6.frozen 4
  have f5 := s6.b6.frozen 5
  have S7 : Hid _ := s7
  have HR7 : Hid _ := R7
  clear s6 s7 R6 R7
  go_wp2
  refine bodyPost_ret (v := .tuple #[.agg #[(.slice a1 n1 c1), (.slice a2' n2' c2'), (.int .i64 ((D.write n x).n : Int)), (.bool (D.write n x).gone), (.int .i64 (fuseI (D.write n x).arm)), (.int .i64 (fuseI (D.write n x).fail))], .bool true]) (hd := rfl) (hR := ⟨_, rfl, F3, a1, a2', n1, c1, n2', c2', rfl, S7.out.d, S7.out.f0, S7.out.bel, HR7.out, S7.out.kk⟩) (hr := ?_)
  simp [results, Try.results28, go_sem, p0, p1, p2, p3, p4, p5]

theorem does_write {w0 w : World} {g : Nat} {D : DS} {v : Value} (h : Both K w0 w g D v) (n sz b : Int) (ak : Option Addr) (nk ck : Nat) (m : Int) (hlim : D.uf.length ≤ 1000000) (hcnt : D.n ≤ 1000000) :
    Calls Try.prog 28 #[.pointer (some ⟨g, 0, none⟩), v, .agg #[.int .i64 1, .int .i64 n, .int .i64 sz, .int .i64 b, .slice ak nk ck, .int .u8 m]] w fun r w' => ∃ x v', r = .returned (.tuple #[v', .bool true]) ∧ Both K w0 w' g (D.write n x) v' := by
  by_cases h1 : 5000 < wrap64 (4096 + sz)
  · exact (does_write_a h n sz b ak nk ck m hlim hcnt h1).mono fun r w' h => ⟨_, h⟩
  by_cases h2 : wrap64 (4096 + sz) < 0
  · exact (does_write_c h n sz b ak nk ck m hlim hcnt h2).mono fun r w' h => ⟨_, h⟩
  exact (does_write_b h n sz b ak nk ck m hlim hcnt (wrap64 (4096 + sz)).toNat (by omega) (by omega)).mono fun r w' h => ⟨_, h⟩
end Go.Proofs.Ytagnmmapnpcijaa
