/-
  The bytes of extents; PutNode.
-/
import Derived.Test.YtmhplpiglbamcaaPutSuper
namespace Go.Proofs.Ytmhplpiglbamcaa
open Go.RowKit

def extB (e : Ext) : List UInt8 := toBE 2 e.a.toNat ++ (toBE 2 e.s.toNat ++ toBE 2 e.c.toNat)
def extsB (es : List Ext) : List UInt8 := es.flatMap extB
theorem extB_length (e : Ext) : (extB e).length = 6 := by simp [extB, toBE_length]
theorem extsB_length (es : List Ext) : (extsB es).length = es.length * 6 := by
  induction es with
  | nil => rfl
  | cons e l ih => simp [extsB, extB_length] at ih ⊢; omega
theorem extsB_succ (es : List Ext) (k : Nat) (h : k < es.length) : extsB (es.take (k + 1)) = extsB (es.take k) ++ extB es[k] := by
  rw [List.take_succ_eq_append_getElem h]; unfold extsB; rw [List.flatMap_append]; simp

def natE (e : Ext) : Prop := (0 ≤ e.a ∧ e.a < 65536) ∧ (0 ≤ e.s ∧ e.s < 65536) ∧ (0 ≤ e.c ∧ e.c < 65536)
theorem natE_of_right : ∀ (es : List Ext) (d : Int), 0 ≤ d → rightFrom d es = true → ∀ e ∈ es, natE e
  | [], _, _, _ => by simp
  | x :: l, d, hd, h => by
    simp only [rightFrom, Bool.and_eq_true, Bool.not_eq_true'] at h
    have hb := badE_false h.1
    intro e he
    rcases List.mem_cons.1 he with rfl | he
    · exact ⟨by omega, by omega, by omega⟩
    · exact natE_of_right l _ (by omega) h.2 e he

theorem own_ne {w : World} {B n Q : Nat} {v : Value} {xs : List Value} {cs : Array Value} {fr : Nat × Nat} (h : w.ownsRow B 5 1 v n xs) (hq : w.heap[Q]? = some (.cells cs 3 fr)) : ∀ k, v.ownBlock = some k → Q ≠ k := by
  intro k hk e
  subst e
  rcases h.2 with ⟨rfl, _⟩ | ⟨g, cap, cur, rfl, hb, hg, _⟩
  · simp [Value.ownBlock] at hk
  · simp [Value.ownBlock] at hk
    subst hk
    rw [hg] at hq
    simp at hq

theorem owns_below {w w' : World} {B e z n : Nat} {v : Value} {xs : List Value} (h : w.ownsRow B e z v n xs) (hb : Below w.heap.size w w') : w'.ownsRow B e z v n xs :=
  h.kept (row := none) ⟨hb.os, hb.tape, hb.output, hb.size, fun k hk _ => hb.block k hk⟩ (Classical.em _)

/-- a row of three whole numbers -/
def Three (w : World) (Q : Nat) (a b c : Int) : Prop := w.heap[Q]? = some (.cells #[.int .i64 a, .int .i64 b, .int .i64 c] 3 (0, 0))
theorem Three.cell {w : World} {Q : Nat} {a b c : Int} (h : Three w Q a b c) : w.cell? ⟨Q, 0, none⟩ = some (.int .i64 a) ∧ w.cell? ⟨Q, 1, none⟩ = some (.int .i64 b) ∧ w.cell? ⟨Q, 2, none⟩ = some (.int .i64 c) :=
  ⟨cell_of_row w Q 0 _ 3 (0, 0) h, cell_of_row w Q 1 _ 3 (0, 0) h, cell_of_row w Q 2 _ 3 (0, 0) h⟩
theorem Three.lt {w : World} {Q : Nat} {a b c : Int} (h : Three w Q a b c) : Q < w.heap.size := (Array.getElem?_eq_some_iff.1 h).1
theorem Three.below {w w' : World} {Q : Nat} {a b c : Int} (h : Three w Q a b c) (hb : Below w.heap.size w w') : Three w' Q a b c := (hb.block Q h.lt).trans h
theorem Three.grown {w w' : World} {Q B n : Nat} {v : Value} {xs : List Value} {a b c : Int} (h : Three w Q a b c) (ho : w.ownsRow B 5 1 v n xs) (hg : w.grownBy w' v.ownBlock) : Three w' Q a b c :=
  (hg.block Q h.lt (fun e => own_ne ho h Q e.symm rfl)).trans h

theorem extentBytes_in (b o cap n : Nat) (es : List Ext) (w : World) (hl : es.length = n) (hn : n ≤ 100000) (hw : ∀ e ∈ es, natE e) (hb : b < w.heap.size)
    (hc : ∀ j (h : j < es.length), w.cell? ⟨b, o + j * 3, none⟩ = some (.int .i64 es[j].a) ∧ w.cell? ⟨b, o + j * 3 + 1, none⟩ = some (.int .i64 es[j].s) ∧ w.cell? ⟨b, o + j * 3 + 2, none⟩ = some (.int .i64 es[j].c)) :
    Calls Try.prog 50 #[.slice (some ⟨b, o, none⟩) n cap] w fun r w' => ∃ v, r = .returned v ∧ w'.ownsRow w.heap.size 5 1 v (n * 6) (bcs (extsB es)) ∧ Below w.heap.size w w' := by
  obtain ⟨i0, hi, hz0, hz1, hz2⟩ := info_parts info5
  have hmk : ∀ u : World, (Instr.makeSlice 22 (.int .i64 0) (.int .i64 ((n : Int) * 6))).run Try.prog u =
      .ok (.slice (some ⟨u.heap.size, 0, none⟩) 0 (n * 6)) (u.alloc (.cells (madeCells #[.int .u8 0] (n * 6)) 5)) := fun u => by
    have h := run_make (P := Try.prog) u 22 5 i0 (.int .u8 0) Try.underlying22 hi hz0 .i64 .i64 0 ((n : Int) * 6) (by omega) (by omega) (by rw [hz2]; omega) (by omega)
    have e : ((n : Int) * 6).toNat = n * 6 := by omega
    rw [e] at h
    simpa [hz1, Value.cells] using h
  have hb0 : Below w.heap.size w (w.alloc (.cells (madeCells #[.int .u8 0] (n * 6)) 5)) := (Below.refl _ _).alloc (Nat.le_refl _) _
  have ho : (w.alloc (.cells (madeCells #[.int .u8 0] (n * 6)) 5)).ownsRow w.heap.size 5 1 (.slice (some ⟨w.heap.size, 0, none⟩) 0 (n * 6)) 0 (bcs (extsB [])) := by
    refine ⟨rfl, .inr ⟨w.heap.size, n * 6, _, rfl, Nat.le_refl _, heap_alloc_new w _, by omega, by unfold maxLen; omega, ?_, rfl⟩⟩
    rw [made_zero]; simp [bcs_length]
  have Hl : Hid _ := hl
  have Hc : Hid _ := hc
  have Hw : Hid _ := hw
  clear hl hc hw
  go_enter Try.func50, Try.ntmps50
  go_wp2_with fail
  go_loopw [3, 14] (fun v i wr => ∃ k : Nat, k ≤ n ∧ i = .int .i64 k ∧ wr.ownsRow w.heap.size 5 1 v (k * 6) (bcs (extsB (es.take k))) ∧ Below w.heap.size w wr) (fun _ i _ => n - (intOf i).toNat)
  case atStart => exact ⟨0, Nat.zero_le _, rfl, by simpa using ho, hb0⟩
  case round =>
    obtain ⟨k, hk, rfl, hown, hbel⟩ := hrel
    clear ho hb0 hmk
    by_cases hlt : k < n
    · have hlt' : Hid (k < es.length) := by show _ < _; rw [Hl.out]; exact hlt
      obtain ⟨e, hcc⟩ : ∃ e, e = es[k]'hlt'.out := ⟨_, rfl⟩
      obtain ⟨h0, h1, h2⟩ := Hc.out k hlt'.out
      rw [← hcc] at h0 h1 h2
      have hwe := Hw.out e (by rw [hcc]; exact List.getElem_mem _)
      replace h0 := (hbel.cell (p := ⟨b, _, none⟩) hb).trans h0
      replace h1 := (hbel.cell (p := ⟨b, _, none⟩) hb).trans h1
      replace h2 := (hbel.cell (p := ⟨b, _, none⟩) hb).trans h2
      have Hcc : Hid _ := hcc
      clear hcc
      obtain ⟨ea, eb, ec⟩ := e
      obtain ⟨⟨ha0, ha1⟩, ⟨hb0, hb1⟩, ⟨hc0, hc1⟩⟩ := hwe
      obtain ⟨ea, rfl⟩ := Int.eq_ofNat_of_zero_le ha0
      obtain ⟨eb, rfl⟩ := Int.eq_ofNat_of_zero_le hb0
      obtain ⟨ec, rfl⟩ := Int.eq_ofNat_of_zero_le hc0
      have hz := hbel.size
      go_wp2_with fail
      refine wp_loop_rounds 4 ?_
      rw [rounds_succ]
      obtain ⟨W0, hW⟩ : ∃ W, W = (wr.alloc (.cells #[.int .i64 (ea : Int), .int .i64 (eb : Int), .int .i64 (ec : Int)] 46)).alloc (.cells #[.int .i64 (ea : Int), .int .i64 (eb : Int), .int .i64 (ec : Int)] 3) := ⟨_, rfl⟩
      rw [← hW]
      obtain ⟨X0, hX0⟩ : ∃ X, X = extsB (es.take k) := ⟨_, rfl⟩
      obtain ⟨v0, hv0⟩ : ∃ v, v = u3 := ⟨_, rfl⟩
      have T0 : Three W0 (wr.heap.size + 1) ea eb ec := by
        rw [hW]
        have h := heap_alloc_new (wr.alloc (.cells #[.int .i64 (ea : Int), .int .i64 (eb : Int), .int .i64 (ec : Int)] 46)) (.cells #[.int .i64 (ea : Int), .int .i64 (eb : Int), .int .i64 (ec : Int)] 3)
        have hs : (wr.alloc (.cells #[.int .i64 (ea : Int), .int .i64 (eb : Int), .int .i64 (ec : Int)] 46)).heap.size = wr.heap.size + 1 := by simp
        rw [hs] at h
        exact h
      have B0 : Below w.heap.size w W0 := by rw [hW]; exact (hbel.alloc hz _).alloc (by simp; omega) _
      have O0 : W0.ownsRow w.heap.size 5 1 v0 (k * 6) (bcs X0) := by rw [hW, hX0, hv0]; exact (hown.alloc _).alloc _
      rw [← hv0]
      have H0 : Hid _ := hX0
      clear hown hbel h0 h1 h2 hW hX0 hv0 hz
      obtain ⟨hq0, hq1, hq2⟩ := T0.cell
      go_wp2_with fail
      refine (add16_at W0.heap.size _ 0 _ [] ea _ W0 rfl rfl rfl (by omega) (by omega) (Rd.nil _ _)).mono ?_
      rintro r V1 ⟨rfl, oo, bb⟩
      have zb := B0.size
      have Bv := B0.trans (bb.mono zb)
      have zv := Bv.size
      have ov := owns_below O0 bb
      have Tv := T0.below bb
      clear hq0 hq1 hq2 bb O0 T0 B0 zb
      go_wp2_with (at_builtin; refine wpList_append_bytes rfl _ _ rfl w.heap.size v0 (k * 6) (bcs X0) rfl ov (some ⟨W0.heap.size, 0, none⟩) 2 2 (toBE 2 ea) rfl (toBE_length _ _) oo.rd (by simp) (by omega) zv ?_)
      intro v1 W1 O1 hg
      have T1 := Tv.grown ov hg
      have B1 := Bv.grown hg zv (fun k hk => (ov.lt k hk).1)
      rw [← bcs_append] at O1
      obtain ⟨X1, hX1⟩ : ∃ X, X = X0 ++ toBE 2 ea := ⟨_, rfl⟩
      rw [← hX1] at O1
      have H1 : Hid _ := hX1
      clear oo ov Bv Tv hg zv hX1
      go_wp2_with fail
      rw [rounds_succ]
      obtain ⟨hq0, hq1, hq2⟩ := T1.cell
      go_wp2_with fail
      refine (add16_at W1.heap.size _ 0 _ [] eb _ W1 rfl rfl rfl (by omega) (by omega) (Rd.nil _ _)).mono ?_
      rintro r V2 ⟨rfl, oo, bb⟩
      have zb := B1.size
      have Bv := B1.trans (bb.mono zb)
      have zv := Bv.size
      have ov := owns_below O1 bb
      have Tv := T1.below bb
      clear hq0 hq1 hq2 bb O1 T1 B1 zb
      go_wp2_with (at_builtin; refine wpList_append_bytes rfl _ _ rfl w.heap.size v1 (k * 6 + 2) (bcs X1) rfl ov (some ⟨W1.heap.size, 0, none⟩) 2 2 (toBE 2 eb) rfl (toBE_length _ _) oo.rd (by simp) (by omega) zv ?_)
      intro v2 W2 O2 hg
      have T2 := Tv.grown ov hg
      have B2 := Bv.grown hg zv (fun k hk => (ov.lt k hk).1)
      rw [← bcs_append] at O2
      obtain ⟨X2, hX2⟩ : ∃ X, X = X1 ++ toBE 2 eb := ⟨_, rfl⟩
      rw [← hX2] at O2
      have H2 : Hid _ := hX2
      clear oo ov Bv Tv hg zv hX2
      go_wp2_with fail
      rw [rounds_succ]
      obtain ⟨hq0, hq1, hq2⟩ := T2.cell
      go_wp2_with fail
      refine (add16_at W2.heap.size _ 0 _ [] ec _ W2 rfl rfl rfl (by omega) (by omega) (Rd.nil _ _)).mono ?_
      rintro r V3 ⟨rfl, oo, bb⟩
      have zb := B2.size
      have Bv := B2.trans (bb.mono zb)
      have zv := Bv.size
      have ov := owns_below O2 bb
      have Tv := T2.below bb
      clear hq0 hq1 hq2 bb O2 T2 B2 zb
      go_wp2_with (at_builtin; refine wpList_append_bytes rfl _ _ rfl w.heap.size v2 (k * 6 + 2 + 2) (bcs X2) rfl ov (some ⟨W2.heap.size, 0, none⟩) 2 2 (toBE 2 ec) rfl (toBE_length _ _) oo.rd (by simp) (by omega) zv ?_)
      intro v3 W3 O3 hg
      have T3 := Tv.grown ov hg
      have B3 := Bv.grown hg zv (fun k hk => (ov.lt k hk).1)
      rw [← bcs_append] at O3
      obtain ⟨X3, hX3⟩ : ∃ X, X = X2 ++ toBE 2 ec := ⟨_, rfl⟩
      rw [← hX3] at O3
      have H3 : Hid _ := hX3
      clear oo ov Bv Tv hg zv hX3
      go_wp2_with fail
      rw [rounds_succ]
      have hfin : Hid (extsB (es.take (k + 1)) = X3) := by
        show _ = _
        rw [extsB_succ es k hlt'.out, ← Hcc.out, H3.out, H2.out, H1.out, H0.out]
        simp [extB]
      go_wp2
      go_roundw
      case rel =>
        refine ⟨k + 1, by omega, by go_num, ?_, B3⟩
        rw [hfin.out, show (k + 1) * 6 = k * 6 + 2 + 2 + 2 by omega]
        exact O3
      case measure => simp [intOf]; omega
    · obtain rfl : k = n := by omega
      go_wp2
      go_ret
      rw [List.take_of_length_le (by rw [Hl.out]; exact Nat.le_refl _)] at hown
      exact ⟨_, rfl, hown, hbel⟩

theorem extentBytes_none (a : Option Addr) (cap : Nat) (w : World) :
    Calls Try.prog 50 #[.slice a 0 cap] w fun r w' => ∃ v, r = .returned v ∧ w'.ownsRow w.heap.size 5 1 v 0 (bcs (extsB [])) ∧ Below w.heap.size w w' := by
  obtain ⟨i0, hi, hz0, hz1, hz2⟩ := info_parts info5
  have hmk : ∀ u : World, (Instr.makeSlice 22 (.int .i64 0) (.int .i64 0)).run Try.prog u =
      .ok (.slice (some ⟨u.heap.size, 0, none⟩) 0 0) (u.alloc (.cells (madeCells #[.int .u8 0] 0) 5)) := fun u => by
    have h := run_make (P := Try.prog) u 22 5 i0 (.int .u8 0) Try.underlying22 hi hz0 .i64 .i64 0 0 (by omega) (by omega) (by rw [hz2]; omega) (by omega)
    simpa [hz1, Value.cells] using h
  have hb0 : Below w.heap.size w (w.alloc (.cells (madeCells #[.int .u8 0] 0) 5)) := (Below.refl _ _).alloc (Nat.le_refl _) _
  have ho : (w.alloc (.cells (madeCells #[.int .u8 0] 0) 5)).ownsRow w.heap.size 5 1 (.slice (some ⟨w.heap.size, 0, none⟩) 0 0) 0 (bcs (extsB [])) := by
    refine ⟨rfl, .inr ⟨w.heap.size, 0, _, rfl, Nat.le_refl _, heap_alloc_new w _, by omega, by unfold maxLen; omega, ?_, rfl⟩⟩
    rw [made_zero]; simp [bcs_length]
  go_enter Try.func50, Try.ntmps50
  go_wp2_with fail
  refine wp_loop_rounds 1 ?_
  rw [rounds_succ]
  go_wp2
  go_ret
  exact ⟨_, rfl, ho, hb0⟩

theorem extentBytes_at (cap n : Nat) (a : Option Addr) (es : List Ext) (w : World) (hl : es.length = n) (hn : n ≤ 100000) (hw : ∀ e ∈ es, natE e) (hr : RdE w a es) :
    Calls Try.prog 50 #[.slice a n cap] w fun r w' => ∃ v, r = .returned v ∧ w'.ownsRow w.heap.size 5 1 v (n * 6) (bcs (extsB es)) ∧ Below w.heap.size w w' := by
  by_cases h0 : 0 < n
  · obtain ⟨b, o, rfl, hc⟩ := hr (by omega)
    exact extentBytes_in b o cap n es w hl hn hw (block_lt_of_cell (hc 0 (by omega)).1) hc
  · obtain rfl : n = 0 := by omega
    obtain rfl : es = [] := List.eq_nil_of_length_eq_zero hl
    exact extentBytes_none a cap w

/-- what a row of one's own is, in parts -/
theorem owns_parts {w : World} {B n : Nat} {v : Value} {ys : List UInt8} (h : w.ownsRow B 5 1 v n (bcs ys)) :
    ∃ a cap, v = .slice a n cap ∧ ys.length = n ∧ n ≤ cap ∧ cap ≤ 9223372036854775807 ∧ Rd w a ys ∧ (a = none → cap = 0) ∧ (∀ ad, a = some ad → B ≤ ad.block ∧ ad.block < w.heap.size) := by
  have hl : ys.length = n := by have := h.1; rw [bcs_length] at this; omega
  rcases h.2 with ⟨rfl, rfl⟩ | ⟨g, cap, cur, rfl, hb, hg, hnc, hcm, hcs, htake⟩
  · have h0 : ys = [] := List.eq_nil_of_length_eq_zero hl
    subst h0
    exact ⟨none, 0, rfl, rfl, Nat.le_refl _, by omega, Rd.nil _ _, fun _ => rfl, fun _ h => by simp at h⟩
  · refine ⟨some ⟨g, 0, none⟩, cap, rfl, hl, hnc, by unfold maxLen at hcm; omega, fun _ => ⟨g, 0, rfl, fun j hj => ?_⟩, fun h => by simp at h, fun ad h => ?_⟩
    · have := h.cells (g := g) rfl j _ (bcs_getElem? ys j hj)
      rw [Addr.add_lit] at this
      exact this
    · obtain rfl := Option.some.inj h
      exact ⟨hb, (Array.getElem?_eq_some_iff.1 hg).1⟩

def bodyN (es : List Ext) : List UInt8 := extsB es ++ noughts (4088 - es.length * 6)
def nodeB (es : List Ext) : List UInt8 := (toBE 2 es.length ++ noughts 2) ++ (toBE 4 (crc 0 (bodyN es)) ++ bodyN es)
theorem bodyN_length (es : List Ext) (h : es.length ≤ 250) : (bodyN es).length = 4088 := by rw [bodyN, List.length_append, extsB_length, noughts_length]; omega
theorem nodeB_length (es : List Ext) (h : es.length ≤ 250) : (nodeB es).length = 4096 := by simp only [nodeB, List.length_append, toBE_length, noughts_length, bodyN_length es h]
def putNode (es : List Ext) : Option (List UInt8) := if decide (es.length ≤ 250) && rightFrom 0 es then some (nodeB es) else none

theorem putNode_long (a : Option Addr) (cap n : Nat) (es : List Ext) (w : World) (hl : es.length = n) (hn : n ≤ 9223372036854775807) (h : 250 < n) :
    Calls Try.prog 14 #[.slice a n cap] w fun r w' => Puts w w' (putNode es) r := by
  have e : putNode es = none := by unfold putNode; rw [hl, decide_eq_false (by omega)]; rfl
  rw [e]
  clear hl
  go_enter Try.func14, Try.ntmps14
  go_wp2
  go_ret2
  exact ⟨_, rfl, World.ownsRow_nil _ _ _ _, Below.refl _ _⟩

set_option maxRecDepth 100000 in
set_option maxHeartbeats 1000000 in
theorem putNode_short (a : Option Addr) (cap n : Nat) (es : List Ext) (w : World) (hl : es.length = n) (hn : n ≤ 250) (hw : ∀ e ∈ es, wfE e) (hr : RdE w a es) :
    Calls Try.prog 14 #[.slice a n cap] w fun r w' => Puts w w' (putNode es) r := by
  have c1 := right_at cap n a es w hl (by omega) hw hr
  have hd : decide (n ≤ 250) = true := by simpa using hn
  have hnot : ¬ (250 < (n : Int)) := by omega
  cases hq : rightFrom 0 es
  · have e : putNode es = none := by unfold putNode; rw [hq]; simp
    rw [e]
    rw [hq] at c1
    clear hl
    go_enter Try.func14, Try.ntmps14
    go_wp2_with fail
    refine c1.mono ?_
    rintro r w1 ⟨rfl, b1⟩
    go_wp2
    go_ret2
    exact ⟨_, rfl, World.ownsRow_nil _ _ _ _, b1⟩
  · have e : putNode es = some (nodeB es) := by unfold putNode; rw [hq, hl, hd]; rfl
    have hnat := natE_of_right es 0 (by omega) hq
    have hlen := nodeB_length es (by omega)
    have hbl : Hid ((bodyN es).length = 4088) := bodyN_length es (by omega)
    have hxl : Hid ((extsB es).length = n * 6) := by rw [← hl]; exact extsB_length es
    have hbody : Hid (extsB es ++ List.replicate (4088 - n * 6) 0 = bodyN es) := by rw [← hl]; exact rfl
    have hnode : Hid (nodeB es = (toBE 2 n ++ noughts 2) ++ (toBE 4 (crc 0 (bodyN es)) ++ bodyN es)) := by rw [← hl]; exact rfl
    rw [e]
    rw [hq] at c1
    have Hl : Hid _ := hl
    clear hl
    go_enter Try.func14, Try.ntmps14
    go_wp2_with fail
    refine c1.mono ?_
    rintro r w1 ⟨rfl, b1⟩
    have hr1 := hr.below b1 (Nat.le_refl _)
    go_wp2_with fail
    refine (extentBytes_at cap n a es w1 Hl.out (by omega) hnat hr1).mono ?_
    rintro r w2 ⟨v2, rfl, o2, b2⟩
    have B2 := b1.trans (b2.mono b1.size)
    obtain ⟨a2, cap2, rfl, _, _, _, r2, _, _⟩ := owns_parts o2
    clear c1 hr1 o2 b1 b2
    go_wp2_with fail
    refine (padded_at w2.heap.size _ (n * 6) 4088 _ (extsB es) _ w2 rfl rfl hxl.out (by omega) (by omega) r2).mono ?_
    rintro r w3 ⟨rfl, o3, b3⟩
    rw [hbody.out] at o3
    have B3 := B2.trans (b3.mono B2.size)
    have l3 := o3.lt
    clear r2 b3 B2
    go_wp2_with fail
    refine (add16_at w3.heap.size _ 0 _ [] n _ w3 rfl rfl rfl (by omega) (by omega) (Rd.nil _ _)).mono ?_
    rintro r w4 ⟨rfl, o4, b4⟩
    have B4 := B3.trans (b4.mono B3.size)
    have o3b := o3.below b4 l3
    clear o3 B3
    have z4 := b4.size
    clear b4
    go_wp2_with fail
    refine (padded_at w4.heap.size _ 2 4 _ (toBE 2 n) _ w4 rfl rfl (toBE_length _ _) (by omega) (by omega) o4.rd).mono ?_
    rintro r w5 ⟨rfl, o5, b5⟩
    have B5 := B4.trans (b5.mono B4.size)
    have o3c := o3b.below b5 (by omega)
    have o5' : Own w5 w4.heap.size (toBE 2 n ++ noughts 2) := o5
    have z5 := b5.size
    have l5 := o5.lt
    clear o4 o3b B4 o5 b5
    go_wp2_with fail
    refine (crc_at _ 4088 _ (bodyN es) w5 hbl.out (by omega) o3c.rd).mono ?_
    rintro r w6 ⟨rfl, b6⟩
    have B6 := B5.trans (b6.mono B5.size)
    have o3d := o3c.below b6 (by omega)
    have o6 := o5'.below b6 l5
    have z6 := b6.size
    have hcl := crc_lt 0 (bodyN es)
    obtain ⟨C, hC⟩ : ∃ C, C = crc 0 (bodyN es) := ⟨_, rfl⟩
    rw [← hC] at hcl ⊢
    have HC : Hid _ := hC
    clear o3c o5' B5 b6 hC
    go_wp2_with fail
    refine (add32_at w6.heap.size _ 4 _ (toBE 2 n ++ noughts 2) C _ w6 rfl rfl (by rw [List.length_append, toBE_length, noughts_length]) hcl (by omega) o6.rd).mono ?_
    rintro r w7 ⟨rfl, o7, b7⟩
    have B7 := B6.trans (b7.mono B6.size)
    have o3e := o3d.below b7 (by omega)
    have z7 := B7.size
    have z1 : w.heap.size ≤ w6.heap.size := B6.size
    clear o3d o6 B6 b7
    have own7 := o7.owns z1 (n := 8) (by simp only [List.length_append, toBE_length, noughts_length]) (by omega)
    go_wp2_with (at_builtin; refine wpList_append_bytes rfl _ _ rfl w.heap.size _ 8 _ rfl own7 (some ⟨w2.heap.size, 0, none⟩) 4088 4088 (bodyN es) rfl hbl.out o3e.rd (by simp) (by omega) z7 ?_)
    intro v8 w8 o8 g8
    have B8 := B7.grown g8 z7 (fun k hk => (own7.lt k hk).1)
    rw [← bcs_append] at o8
    clear o7 o3e own7 g8 B7
    go_wp2
    go_ret2
    refine ⟨_, rfl, ?_, B8⟩
    show World.ownsRow _ _ _ _ _ (nodeB es).length (bcs (nodeB es))
    rw [hlen, hnode.out, ← HC.out]
    rw [List.append_assoc] at o8
    exact o8

/-- PutNode -/
theorem putNode_at (cap n : Nat) (a : Option Addr) (es : List Ext) (w : World) (hl : es.length = n) (hn : n ≤ 9223372036854775807) (hw : ∀ e ∈ es, wfE e) (hr : RdE w a es) :
    Calls Try.prog 14 #[.slice a n cap] w fun r w' => Puts w w' (putNode es) r := by
  by_cases h : n ≤ 250
  · exact putNode_short a cap n es w hl h hw hr
  · exact putNode_long a cap n es w hl hn (by omega)
end Go.Proofs.Ytmhplpiglbamcaa
