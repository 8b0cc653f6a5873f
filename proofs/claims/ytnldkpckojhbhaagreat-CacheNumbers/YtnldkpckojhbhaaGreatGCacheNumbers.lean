/-
  CSmall, CNew, CFresh, CFind, CRoom, CPut, CLoad, CHeld, CPin, CClock, CLoad2, CIs, CGather, CSit, CLaw, CImages, CCommit, CCommit2, CLd, CAwake, CNoneL, CMore, CMore2, CMarks, CRead, COne, COver, CNum: put together.
-/
import Derived.Test.YtnldkpckojhbhaaGreatG8
import Derived.BigQuiet
import Derived.Sort.OwnSortedInts
import Derived.Shelf.Abstract
/-
  A cache that New did not make.
-/
namespace Go.Proofs.YtnldkpckojhbhaaGreat.C
open Go.RowKit
open Go.Proofs.YtnldkpckojhbhaaGreat.Dk (Box)

theorem infoC : (Tryz.prog.info? 119).map (fun i => (i.zero.isSome, i.size)) = some (true, 4) := by kernel_rfl
theorem pointC : Tryz.prog.underlying 97 = some (.pointer 119) := by kernel_rfl
theorem eqlSelf (g : Nat) (w : World) : (binOp .eql 97 (.pointer (some ⟨g, 0, none⟩)) (.pointer (some ⟨g, 0, none⟩))).run Tryz.prog w = .ok (.bool true) w := by
  cases h : Tryz.prog.info? 119 with
  | none => have := infoC; rw [h] at this; cases this
  | some i => exact run_eql_ptr_same w ⟨g, 0, none⟩ pointC h
theorem eqlNone (g : Nat) (w : World) : (binOp .eql 97 (.pointer none) (.pointer (some ⟨g, 0, none⟩))).run Tryz.prog w = .ok (.bool false) w := by
  have h : ∀ d : Nat, (Op.equalIn (d + 1) 97 (.pointer none) (.pointer (some ⟨g, 0, none⟩))).run Tryz.prog w = .ok false w := fun d => by
    simp [Op.equalIn, run_underlying pointC]
  simp only [binOp]
  simp [Op.equal, Op.maxDepth, h]
theorem isMade_cell (g : Nat) (w : World) (h : w.cell? ⟨g, 0, none⟩ = some (.pointer (some ⟨g, 0, none⟩))) :
    Calls Tryz.prog 119 #[.pointer (some ⟨g, 0, none⟩)] w fun e w' => e = .returned (.bool true) ∧ w = w' := by
  have he := eqlSelf g
  go_enter Tryz.func119, Tryz.ntmps119
  go_wp2
  go_ret
  exact ⟨rfl, rfl⟩
theorem isMade_none (w : World) : Calls Tryz.prog 119 #[.pointer none] w fun e w' => e = .returned (.bool false) ∧ w = w' := by
  go_enter Tryz.func119, Tryz.ntmps119
  go_wp2
  go_ret
  exact ⟨rfl, rfl⟩
theorem isMade_zero (g : Nat) (w : World) (h : w.cell? ⟨g, 0, none⟩ = some (.pointer none)) :
    Calls Tryz.prog 119 #[.pointer (some ⟨g, 0, none⟩)] w fun e w' => e = .returned (.bool false) ∧ w = w' := by
  have he := eqlNone g
  go_enter Tryz.func119, Tryz.ntmps119
  go_wp2
  go_ret
  exact ⟨rfl, rfl⟩
def NoC (w : World) (p : Option Addr) : Prop := p = none ∨ ∃ g, p = some ⟨g, 0, none⟩ ∧ w.cell? ⟨g, 0, none⟩ = some (.pointer none)
theorem isMade_no {w : World} {p : Option Addr} (h : NoC w p) : Calls Tryz.prog 119 #[.pointer p] w fun e w' => e = .returned (.bool false) ∧ w = w' := by
  rcases h with rfl | ⟨g, rfl, h⟩
  · exact isMade_none w
  · exact isMade_zero g w h
theorem NoC.below {w w' : World} {p : Option Addr} (h : NoC w p) (b : Below w.heap.size w w') : NoC w' p := by
  rcases h with h | ⟨g, h1, h2⟩
  · exact .inl h
  · exact .inr ⟨g, h1, (b.cell (p := ⟨g, 0, none⟩) (block_lt_of_cell h2)).trans h2⟩
end Go.Proofs.YtnldkpckojhbhaaGreat.C

/-
  A cache that New made: its cells; New.
-/
namespace Go.Proofs.YtnldkpckojhbhaaGreat.C
open Go.RowKit
open Go.Proofs.YtnldkpckojhbhaaGreat.Dk (Box DS RowB)
open Go.Proofs.YtnldkpckojhbhaaGreat.V (VW VWA vC vcells)

structure Sl where
  b : Int
  row : Option (Nat × Nat)
  xs : List UInt8
  pins : Int
  dirty : Bool
  mark : Bool
def Sl.data (s : Sl) : Value := match s.row with
  | none => .slice none 0 0
  | some (g, c) => .slice (some ⟨g, 0, none⟩) 4096 c
def slC (s : Sl) : List Value := [.int .i64 s.b, s.data, .int .i64 s.pins, .bool s.dirty, .bool s.mark]
def slsC (L : List Sl) : List Value := L.flatMap slC
def empty : Sl := ⟨0, none, [], 0, false, false⟩
def cC (c v sg n : Nat) (hand : Int) : Array Value := #[.pointer (some ⟨c, 0, none⟩), .pointer (some ⟨v, 0, none⟩), .slice (some ⟨sg, 0, none⟩) n n, .int .i64 hand]

theorem layout_at {w : World} {v dg j gm : Nat} {ep : Int} {br : Bool} (h : Box w v (vC v dg j gm ep br) 80) : Calls Tryz.prog 51 #[.pointer (some ⟨v, 0, none⟩)] w fun e w' => e = .returned (.agg #[.int .i64 64, .int .i64 2, .int .i64 16, .int .i64 18, .int .i64 19, .int .i64 4, .int .i64 23]) ∧ Below w.heap.size w w' := by
  have h1 := h.alloc (.cells #[.int .i64 0, .int .i64 0, .int .i64 0, .int .i64 0, .int .i64 0, .int .i64 0, .int .i64 0] 57)
  have x := Box.new w #[.int .i64 0, .int .i64 0, .int .i64 0, .int .i64 0, .int .i64 0, .int .i64 0, .int .i64 0] 57
  have c := V.isMade_at h1
  obtain ⟨c0, c1, c2, c3, c4, c5, c6, c7, c8, c9, c10, c11, c12⟩ := vcells h1
  go_enter Tryz.func51, Tryz.ntmps51
  go_wp2_with fail
  refine c.mono ?_
  rintro e w' ⟨rfl, rfl⟩
  clear c
  have x0 := x.cell 0
  have x1 := x.cell 1
  have x2 := x.cell 2
  have x3 := x.cell 3
  have x4 := x.cell 4
  have x5 := x.cell 5
  have x6 := x.cell 6
  have f0 := x.frozen 0
  have f1 := x.frozen 1
  have f2 := x.frozen 2
  have f3 := x.frozen 3
  have f4 := x.frozen 4
  have f5 := x.frozen 5
  have f6 := x.frozen 6
  simp only [List.getElem?_toArray, List.getElem?_cons_zero, List.getElem?_cons_succ] at x0 x1 x2 x3 x4 x5 x6
  go_wp2_with fail
  refine bodyPost_ret (hd := rfl) (hR := ⟨rfl, ?_⟩) (hr := ?_)
  · simp [results, Tryz.results51, go_sem, *]
  · exact (Below.refl w.heap.size w).alloc (Nat.le_refl _) _
theorem info_buf : (Tryz.prog.info? 175).map (fun i => (i.zero, i.size, i.bytes)) = some (some (.agg #[.int .i64 0, .slice none 0 0, .int .i64 0, .bool false, .bool false]), 5, 48) := by kernel_rfl
theorem made_buf (n : Nat) : madeCells #[.int .i64 0, .slice none 0 0, .int .i64 0, .bool false, .bool false] (n * 5) = (slsC (List.replicate n empty)).toArray := by
  apply Array.ext'
  simp only [madeCells, Array.toList_map, Array.toList_range]
  induction n with
  | zero => rfl
  | succ n ih =>
    have m0 : (n * 5) % 5 = 0 := by omega
    have m1 : (n * 5 + 1) % 5 = 1 := by omega
    have m2 : (n * 5 + 2) % 5 = 2 := by omega
    have m3 : (n * 5 + 3) % 5 = 3 := by omega
    have m4 : (n * 5 + 4) % 5 = 4 := by omega
    rw [show (n + 1) * 5 = n * 5 + 1 + 1 + 1 + 1 + 1 by omega]
    simp only [List.range_succ, List.map_append, ih, List.map_cons, List.map_nil, List.replicate_succ', slsC, List.flatMap_append, List.flatMap_cons, List.flatMap_nil]
    simp [m0, m1, m2, m3, m4, slC, empty, Sl.data]
theorem make_buf (n : Nat) (hn : n ≤ 1000) (u : World) : (Instr.makeSlice 117 (.int .i64 (n : Int)) (.int .i64 (n : Int))).run Tryz.prog u = .ok (.slice (some ⟨u.heap.size, 0, none⟩) n n) (u.alloc (.cells (slsC (List.replicate n empty)).toArray 175)) := by
  obtain ⟨i0, hi, hz0, hz1, hz2⟩ := info_parts info_buf
  have h := run_make (P := Tryz.prog) u 117 175 i0 (.agg #[.int .i64 0, .slice none 0 0, .int .i64 0, .bool false, .bool false]) Tryz.underlying117 hi hz0 .i64 .i64 (n : Int) (n : Int) (by omega) (Int.le_refl _) (by rw [hz2]; omega) (by omega)
  have e : ((n : Int)).toNat = n := by omega
  rw [e, hz1] at h
  have e2 := made_buf n
  rw [← e2]
  exact h
theorem eqlL (u : World) : (binOp .eql 57 (.agg #[.int .i64 64, .int .i64 2, .int .i64 16, .int .i64 18, .int .i64 19, .int .i64 4, .int .i64 23]) (.agg #[.int .i64 0, .int .i64 0, .int .i64 0, .int .i64 0, .int .i64 0, .int .i64 0, .int .i64 0])).run Tryz.prog u = .ok (.bool false) u := by
  have h := La.eq23 u 64 2 16 18 19 4 23 0 0 0 0 0 0 0
  simp [La.same7] at h
  simp only [binOp]
  simp [Op.equal, Op.maxDepth, h]
set_option maxRecDepth 100000 in
theorem new_at {w : World} {v dg j gm : Nat} {ep : Int} {br : Bool} (h : Box w v (vC v dg j gm ep br) 80) (n : Nat) (h1 : 1 ≤ n) (h64 : n ≤ 64) :
    Calls Tryz.prog 59 #[.pointer (some ⟨v, 0, none⟩), .int .i64 (n : Int)] w fun r w' => ∃ c sg, r = .returned (.tuple #[.pointer (some ⟨c, 0, none⟩), .int .i64 0]) ∧ w.heap.size ≤ sg ∧ w.heap.size ≤ c ∧ c ≠ sg ∧ Box w' c (cC c v sg n 0) 119 ∧ Box w' sg (slsC (List.replicate n empty)).toArray 175 ∧ Below w.heap.size w w' := by
  have cL := layout_at h
  have he := eqlL
  have hmk := make_buf n (by omega)
  have hn0 : (1 : Int) ≤ (n : Int) := by omega
  have hn1 : (n : Int) ≤ 64 := by omega
  clear h
  generalize (slsC (List.replicate n empty)).toArray = Z at hmk ⊢
  go_enter Tryz.func59, Tryz.ntmps59
  go_wp2_with fail
  refine Calls.mono cL ?_
  rintro r wu1 ⟨rfl, b1⟩
  have HB1 : Hid (Below w.heap.size w wu1) := b1
  clear cL b1
  go_wp2_with fail
  have hz := HB1.out.size
  have e1 : (wu1.alloc (.cells Z 175)).heap.size = wu1.heap.size + 1 := by simp
  have xs := (Box.new wu1 Z 175).alloc (.cells (cC (wu1.heap.size + 1) v wu1.heap.size n 0) 119)
  have xc := Box.new (wu1.alloc (.cells Z 175)) (cC (wu1.heap.size + 1) v wu1.heap.size n 0) 119
  rw [e1] at xc
  have B3 := (HB1.out.alloc HB1.out.size (.cells Z 175)).alloc (by rw [e1]; omega) (.cells (cC (wu1.heap.size + 1) v wu1.heap.size n 0) 119)
  exact bodyPost_ret (v := .tuple #[.pointer (some ⟨wu1.heap.size + 1, 0, none⟩), .int .i64 0]) (by simp [results, Tryz.results59, go_sem]) rfl ⟨wu1.heap.size + 1, wu1.heap.size, rfl, hz, by omega, by omega, xc, xs, B3⟩
end Go.Proofs.YtnldkpckojhbhaaGreat.C

/-
  A cache's state; fresh of cache's law.
-/
namespace Go.Proofs.YtnldkpckojhbhaaGreat.C
open Go.RowKit
open Go.Proofs.YtnldkpckojhbhaaGreat.Dk (Box DS IsDisk Upd RowB nought)
open Go.Proofs.YtnldkpckojhbhaaGreat.V (VW VWA vC vcells Mq f2 fmt_new new64 format_at upd_low mount_zero f1_zero ch1)

structure CD (w : World) (c v sg : Nat) (hand : Int) (L : List Sl) : Prop where
  box : Box w c (cC c v sg L.length hand) 119
  sl : Box w sg (slsC L).toArray 175
  ne : c ≠ sg
  rows : ∀ s ∈ L, ∀ g cc, s.row = some (g, cc) → RowB w g cc s.xs ∧ s.xs.length = 4096
theorem CD.below {w w' : World} {c v sg : Nat} {hand : Int} {L : List Sl} (h : CD w c v sg hand L) (b : Below w.heap.size w w') : CD w' c v sg hand L :=
  ⟨h.box.below b, h.sl.below b, h.ne, fun s hs g cc e => ⟨(h.rows s hs g cc e).1.same (b.block g (h.rows s hs g cc e).1.lt), (h.rows s hs g cc e).2⟩⟩
set_option maxRecDepth 100000 in
theorem fresh_at (n : Nat) (hn0 : 1 ≤ n) (hn64 : n ≤ 64) (w : World) : Calls Tryz.prog 58 #[.int .i64 (n : Int)] w fun r w' => ∃ g v j gm F D c sg, r = .returned (.tuple #[.pointer (some ⟨g, 0, none⟩), .pointer (some ⟨v, 0, none⟩), .pointer (some ⟨c, 0, none⟩), .bool true]) ∧ CD w' c v sg 0 (List.replicate n empty) ∧ ¬ F c ∧ ¬ F sg ∧ c ≠ v ∧ c ≠ gm ∧ sg ≠ v ∧ sg ≠ gm ∧ w.heap.size ≤ c ∧ w.heap.size ≤ sg ∧ VW w' v g j gm 2 false (J.opened 64 2 1 0) [] D 0 (fun _ => none) F ∧ Mq D f2 24 ∧ D.uf = [] ∧ (∀ i, F i → w.heap.size ≤ i) ∧ w.heap.size ≤ v ∧ w.heap.size ≤ gm ∧ Below w.heap.size w w' := by
  obtain ⟨N, hN⟩ : ∃ N, N = 64 * 4096 := ⟨_, rfl⟩
  have cN := new64 N hN w
  have hm := fmt_new N hN
  obtain ⟨D0, hD0⟩ : ∃ D, D = DS.new 64 (nought N) := ⟨_, rfl⟩
  have h0 : D0.nb = 64 ∧ D0.uf.length ≤ 800000 ∧ D0.n ≤ 800000 := by
    rw [hD0]
    exact ⟨rfl, Nat.zero_le _, Nat.zero_le _⟩
  rw [← hD0] at hm cN
  clear hD0 hN
  go_enter Tryz.func58, Tryz.ntmps58
  go_wp2_with fail
  refine Calls.mono cN ?_
  rintro r wu1 ⟨g, F, rfl, hd, hF, b1⟩
  have cF := format_at hd h0.1 h0.2
  rw [hm.1] at cF
  clear cN h0
  go_wp2_with fail
  refine Calls.mono cF ?_
  rintro r wu2 ⟨rfl, ⟨F2, hd2, hF2⟩, U2⟩
  have B2 := upd_low b1 U2 hF
  have hF2' : ∀ i, F2 i → w.heap.size ≤ i := fun i hi => by
    rcases hF2 i hi with h | h
    · exact hF i h
    · have := b1.size; omega
  have cM := mount_zero hd2 hm.2.1 (by decide) (by rw [hm.2.2]; decide) (fun k h1 _ => f1_zero k h1) (Su.superB_length 64 1 1 0) (Dk.nought_length 4096) 1 1 0 1 (by decide) (by decide) (.inl ⟨rfl, rfl⟩) ch1
  clear cF hm hF2 U2 hF b1 hd
  go_wp2_with fail
  refine Calls.mono cM ?_
  rintro r wu3 ⟨v, j, gm, F3, D3, rfl, hv, hq, hu, hF3, hvl, hgl, U3⟩
  have B3 := upd_low B2 U3 hF2'
  have HV : Hid (VW wu3 v g j gm 2 false (J.opened 64 2 1 0) [] D3 0 (fun _ => none) F3) := hv
  have HQ : Hid (Mq D3 f2 24) := hq
  have hF3' : ∀ i, F3 i → w.heap.size ≤ i := fun i hi => by
    rcases hF3 i hi with h | h
    · exact hF2' i h
    · have := B2.size; omega
  have hvl2 : w.heap.size ≤ v := Nat.le_trans B2.size hvl
  have hgl2 : w.heap.size ≤ gm := Nat.le_trans B2.size hgl
  obtain ⟨m3, hv3, _⟩ := id hv
  have cC := new_at hv3.box n hn0 hn64
  have HFl : Hid (∀ i, F3 i → i < wu3.heap.size) := hv3.jd.flt
  have HVl : Hid (v < wu3.heap.size ∧ gm < wu3.heap.size) := hv.vlt
  clear cM hv hq hF3 hv3
  go_wp2_with fail
  refine Calls.mono cC ?_
  rintro r wu4 ⟨c, sg, rfl, hsg, hc, hne, xc, xs, b4⟩
  have HV4 : Hid (VW wu4 v g j gm 2 false (J.opened 64 2 1 0) [] D3 0 (fun _ => none) F3) := HV.out.below b4
  have HB4 : Hid (Below w.heap.size w wu4) := B3.trans (b4.mono B3.size)
  have HCD : Hid (CD wu4 c v sg 0 (List.replicate n empty)) := ⟨by rw [List.length_replicate]; exact xc, xs, hne, fun s hs g cc e => by
    rw [(List.mem_replicate.1 hs).2] at e
    cases e⟩
  have h1 := HVl.out.1
  have h2 := HVl.out.2
  have h3 := B3.size
  have HX : Hid (¬ F3 c ∧ ¬ F3 sg ∧ c ≠ v ∧ c ≠ gm ∧ sg ≠ v ∧ sg ≠ gm ∧ w.heap.size ≤ c ∧ w.heap.size ≤ sg) := ⟨fun hf => by have := HFl.out c hf; omega, fun hf => by have := HFl.out sg hf; omega, by omega, by omega, by omega, by omega, by omega, by omega⟩
  clear cC hsg hc hne xc xs b4 h1 h2 h3
  go_wp2_with fail
  exact bodyPost_ret (v := .tuple #[.pointer (some ⟨g, 0, none⟩), .pointer (some ⟨v, 0, none⟩), .pointer (some ⟨c, 0, none⟩), .bool true]) (by simp [results, Tryz.results58, go_sem]) rfl ⟨g, v, j, gm, F3, D3, c, sg, rfl, HCD.out, HX.out.1, HX.out.2.1, HX.out.2.2.1, HX.out.2.2.2.1, HX.out.2.2.2.2.1, HX.out.2.2.2.2.2.1, HX.out.2.2.2.2.2.2.1, HX.out.2.2.2.2.2.2.2, HV4.out, HQ.out, hu, hF3', hvl2, hgl2, HB4.out⟩
end Go.Proofs.YtnldkpckojhbhaaGreat.C

/-
  find: where a block is held.
-/
namespace Go.Proofs.YtnldkpckojhbhaaGreat.C
open Go.RowKit
open Go.Proofs.YtnldkpckojhbhaaGreat.Dk (Box RowB)

theorem slsC_at (L : List Sl) (i : Nat) (h : i < L.length) (k : Nat) (hk : k < 5) : (slsC L)[i * 5 + k]? = (slC L[i])[k]? := by
  induction L generalizing i with
  | nil => cases h
  | cons s r ih =>
    cases i with
    | zero =>
      simp only [slsC, List.flatMap_cons, List.getElem_cons_zero, Nat.zero_mul, Nat.zero_add]
      rw [List.getElem?_append_left (by simp [slC]; omega)]
    | succ i =>
      simp only [slsC, List.flatMap_cons, List.getElem_cons_succ]
      rw [List.getElem?_append_right (by simp [slC]; omega)]
      have e : (i + 1) * 5 + k - (slC s).length = i * 5 + k := by simp [slC]; omega
      rw [e]
      exact ih i (by simpa using h)
structure SlCells (w : World) (sg i : Nat) (s : Sl) : Prop where
  c0 : w.cell? ⟨sg, i * 5, none⟩ = some (.int .i64 s.b)
  c1 : w.cell? ⟨sg, i * 5 + 1, none⟩ = some s.data
  c2 : w.cell? ⟨sg, i * 5 + 2, none⟩ = some (.int .i64 s.pins)
  c3 : w.cell? ⟨sg, i * 5 + 3, none⟩ = some (.bool s.dirty)
  c4 : w.cell? ⟨sg, i * 5 + 4, none⟩ = some (.bool s.mark)
theorem CD.slot {w : World} {c v sg : Nat} {hand : Int} {L : List Sl} (h : CD w c v sg hand L) (i : Nat) (hi : i < L.length) : SlCells w sg i L[i] :=
  ⟨(h.sl.cell (i * 5)).trans (by simpa [slC] using slsC_at L i hi 0 (by decide)), (h.sl.cell (i * 5 + 1)).trans (by simpa [slC] using slsC_at L i hi 1 (by decide)), (h.sl.cell (i * 5 + 2)).trans (by simpa [slC] using slsC_at L i hi 2 (by decide)), (h.sl.cell (i * 5 + 3)).trans (by simpa [slC] using slsC_at L i hi 3 (by decide)), (h.sl.cell (i * 5 + 4)).trans (by simpa [slC] using slsC_at L i hi 4 (by decide))⟩
theorem eqlNil (u : World) : (binOp .eql 37 (.slice none 0 0) (.slice none 0 0)).run Tryz.prog u = .ok (.bool true) u := by
  have h : ∀ d : Nat, (Op.equalIn (d + 1) 37 (.slice none 0 0) (.slice none 0 0)).run Tryz.prog u = .ok true u := fun d => by
    simp [Op.equalIn, run_underlying Tryz.underlying37]
  simp only [binOp]
  simp [Op.equal, Op.maxDepth, h]
theorem eqlSome (g c : Nat) (u : World) : (binOp .eql 37 (.slice (some ⟨g, 0, none⟩) 4096 c) (.slice none 0 0)).run Tryz.prog u = .ok (.bool false) u := by
  have h : ∀ d : Nat, (Op.equalIn (d + 1) 37 (.slice (some ⟨g, 0, none⟩) 4096 c) (.slice none 0 0)).run Tryz.prog u = .ok false u := fun d => by
    simp [Op.equalIn, run_underlying Tryz.underlying37]
  simp only [binOp]
  simp [Op.equal, Op.maxDepth, h]
set_option maxRecDepth 100000 in
theorem isEmpty_at (s : Sl) (w : World) : Calls Tryz.prog 178 #[.agg #[.int .i64 s.b, s.data, .int .i64 s.pins, .bool s.dirty, .bool s.mark]] w fun e w' => e = .returned (.bool s.row.isNone) ∧ Below w.heap.size w w' := by
  obtain ⟨b, row, xs, pins, dirty, mark⟩ := s
  have B := fun x => (Below.refl w.heap.size w).alloc (Nat.le_refl _) (.cells #[.int .i64 b, x, .int .i64 pins, .bool dirty, .bool mark] 175)
  have h0 := eqlNil
  have h1 := eqlSome
  cases row with
  | none =>
    show Calls Tryz.prog 178 #[.agg #[.int .i64 b, .slice none 0 0, .int .i64 pins, .bool dirty, .bool mark]] w fun e w' => e = .returned (.bool true) ∧ Below w.heap.size w w'
    go_enter Tryz.func178, Tryz.ntmps178
    go_wp2_with fail
    go_ret
    exact ⟨rfl, B _⟩
  | some p =>
    obtain ⟨g, c⟩ := p
    show Calls Tryz.prog 178 #[.agg #[.int .i64 b, .slice (some ⟨g, 0, none⟩) 4096 c, .int .i64 pins, .bool dirty, .bool mark]] w fun e w' => e = .returned (.bool false) ∧ Below w.heap.size w w'
    go_enter Tryz.func178, Tryz.ntmps178
    go_wp2_with fail
    go_ret
    exact ⟨rfl, B _⟩
def isAt (n : Int) (s : Sl) : Bool := s.row.isSome && decide (s.b = n)
def hit (sg : Nat) (L : List Sl) (n : Int) : Option Addr := (L.findIdx? (isAt n)).map fun i => ⟨sg, i * 5, none⟩
set_option maxRecDepth 100000 in
set_option maxHeartbeats 2000000 in
theorem find_at {w : World} {c v sg : Nat} {hand : Int} {L : List Sl} (h : CD w c v sg hand L) (h64 : L.length ≤ 64) (n : Int) :
    Calls Tryz.prog 120 #[.pointer (some ⟨c, 0, none⟩), .int .i64 n] w fun e w' => e = .returned (.pointer (hit sg L n)) ∧ Below w.heap.size w w' := by
  have HC : Hid (CD w c v sg hand L) := h
  obtain ⟨N, hN⟩ : ∃ N, N = L.length := ⟨_, rfl⟩
  have HN : Hid (N = L.length) := hN
  have k2 : w.cell? ⟨c, 2, none⟩ = some (.slice (some ⟨sg, 0, none⟩) N N) := by rw [hN]; exact h.box.cell 2
  rw [← hN] at h64
  clear h hN
  go_enter Tryz.func120, Tryz.ntmps120
  go_wp2_with fail
  clear k2
  go_loopw [12] (fun i u => ∃ k : Nat, k ≤ N ∧ i = .int .i64 (k : Int) ∧ (∀ j (hj : j < L.length), j < k → isAt n L[j] = false) ∧ Below w.heap.size w u) (fun i _ => N - (intOf i).toNat)
  case atStart => exact ⟨0, Nat.zero_le _, rfl, fun j _ hj => absurd hj (Nat.not_lt_zero _), Below.refl _ _⟩
  case round =>
    obtain ⟨k, hk, rfl, hno, B⟩ := hrel
    have HNo : Hid (∀ j (hj : j < L.length), j < k → isAt n L[j] = false) := hno
    have HB : Hid (Below w.heap.size w wr) := B
    clear hno B
    by_cases hlt : k < N
    · have hkL : k < L.length := by rw [← HN.out]; exact hlt
      have hki : (k : Int) < (N : Int) := by omega
      have hC := HC.out.below HB.out
      have k2 : wr.cell? ⟨c, 2, none⟩ = some (.slice (some ⟨sg, 0, none⟩) N N) := by rw [HN.out]; exact hC.box.cell 2
      obtain ⟨c0, c1, c2, c3, c4⟩ := hC.slot k hkL
      have cE := isEmpty_at L[k] wr
      have hnx : Hid (isAt n L[k] = false → ∀ j (hj : j < L.length), j < k + 1 → isAt n L[j] = false) := fun h j hj hlt => by
        by_cases e : j = k
        · subst e; exact h
        · exact HNo.out j hj (by omega)
      have hyes : Hid (isAt n L[k] = true → hit sg L n = some ⟨sg, k * 5, none⟩) := fun h => by
        unfold hit
        rw [List.findIdx?_eq_some_iff_getElem.2 ⟨hkL, h, fun j hj => by rw [HNo.out j (by omega) hj]; exact Bool.false_ne_true⟩]
        rfl
      have hS : Hid (∀ u, Below wr.heap.size wr u → u.cell? ⟨sg, k * 5, none⟩ = some (.int .i64 L[k].b)) := fun u bu => ((hC.below bu).slot k hkL).c0
      generalize (L[k]'hkL) = s at c0 c1 c2 c3 c4 cE hnx hyes hS
      clear hC
      go_wp2_with fail
      refine cE.mono ?_
      rintro r wu2 ⟨rfl, b2⟩
      have d0 := hS.out _ b2
      have HB2 : Hid (Below w.heap.size w wu2) := HB.out.trans (b2.mono HB.out.size)
      clear c0 c1 c2 c3 c4 k2 cE b2 hS
      cases hr : s.row with
      | none =>
        have hno2 := hnx.out (by unfold isAt; rw [hr]; rfl)
        have HNo2 : Hid (∀ j (hj : j < L.length), j < k + 1 → isAt n L[j] = false) := hno2
        clear hno2 hnx hyes
        go_wp2_with fail
        go_roundw
        case rel => exact ⟨k + 1, by omega, by push_cast; rfl, HNo2.out, HB2.out⟩
        case measure => simp [intOf]; omega
      | some q =>
        by_cases hb : s.b = n
        · have hy := hyes.out (by unfold isAt; rw [hr, hb]; simp)
          have HY : Hid (hit sg L n = some ⟨sg, k * 5, none⟩) := hy
          clear hy hyes hnx
          go_wp2_with fail
          exact bodyPost_ret (v := .pointer (some ⟨sg, k * 5, none⟩)) (by simp [results, Tryz.results120, go_sem]) rfl ⟨by rw [HY.out], HB2.out⟩
        · have HNo2 : Hid (∀ j (hj : j < L.length), j < k + 1 → isAt n L[j] = false) := hnx.out (by unfold isAt; rw [hr]; simp [hb])
          clear hnx hyes
          go_wp2_with fail
          go_roundw
          case rel => exact ⟨k + 1, by omega, by push_cast; rfl, HNo2.out, HB2.out⟩
          case measure => simp [intOf]; omega
    · have hkN : k = N := by omega
      have hnone : Hid (hit sg L n = none) := by
        show hit sg L n = none
        unfold hit
        rw [List.findIdx?_eq_none_iff.2 (fun x hx => by
          obtain ⟨j, hj, rfl⟩ := List.getElem_of_mem hx
          exact HNo.out j hj (by rw [hkN, HN.out]; exact hj))]
        rfl
      subst hkN
      go_wp2_with fail
      exact bodyPost_ret (v := .pointer none) (by simp [results, Tryz.results120, go_sem]) rfl ⟨by rw [hnone.out], HB.out⟩
end Go.Proofs.YtnldkpckojhbhaaGreat.C

/-
  makeRoom where a slot is empty.
-/
namespace Go.Proofs.YtnldkpckojhbhaaGreat.C
open Go.RowKit
open Go.Proofs.YtnldkpckojhbhaaGreat.Dk (Box RowB)

set_option maxRecDepth 100000 in
theorem stays_at (s : Sl) (w : World) : Calls Tryz.prog 179 #[.agg #[.int .i64 s.b, s.data, .int .i64 s.pins, .bool s.dirty, .bool s.mark]] w fun e w' => e = .returned (.bool (decide (0 < s.pins) || s.dirty)) ∧ Below w.heap.size w w' := by
  obtain ⟨b, row, xs, pins, dirty, mark⟩ := s
  have B := fun x => (Below.refl w.heap.size w).alloc (Nat.le_refl _) (.cells #[.int .i64 b, x, .int .i64 pins, .bool dirty, .bool mark] 175)
  generalize Sl.data ⟨b, row, xs, pins, dirty, mark⟩ = dv
  by_cases hp : 0 < pins
  · rw [decide_eq_true hp]
    go_enter Tryz.func179, Tryz.ntmps179
    go_wp2_with fail
    go_ret
    exact ⟨rfl, B _⟩
  · rw [decide_eq_false hp]
    go_enter Tryz.func179, Tryz.ntmps179
    go_wp2_with fail
    go_ret
    exact ⟨rfl, B _⟩
set_option maxRecDepth 100000 in
set_option maxHeartbeats 2000000 in
/-- a slot is empty: it is the one -/
theorem room_empty {w : World} {c v sg : Nat} {hand : Int} {L : List Sl} (h : CD w c v sg hand L) (h64 : L.length ≤ 64) (e : Nat) (he : L.findIdx? (fun s => s.row.isNone) = some e) :
    Calls Tryz.prog 121 #[.pointer (some ⟨c, 0, none⟩)] w fun r w' => r = .returned (.pointer (some ⟨sg, e * 5, none⟩)) ∧ Below w.heap.size w w' := by
  have HC : Hid (CD w c v sg hand L) := h
  have HE : Hid (∃ h : e < L.length, L[e].row.isNone = true ∧ ∀ j (hj : j < e), ¬ L[j].row.isNone = true) := List.findIdx?_eq_some_iff_getElem.1 he
  obtain ⟨N, hN⟩ : ∃ N, N = L.length := ⟨_, rfl⟩
  have HN : Hid (N = L.length) := hN
  have heN : e < N := by rw [hN]; exact HE.out.1
  have k2 : w.cell? ⟨c, 2, none⟩ = some (.slice (some ⟨sg, 0, none⟩) N N) := by rw [hN]; exact h.box.cell 2
  rw [← hN] at h64
  clear h hN he
  go_enter Tryz.func121, Tryz.ntmps121
  go_wp2_with fail
  clear k2
  go_loopw [10] (fun i u => ∃ k : Nat, k ≤ e ∧ i = .int .i64 (k : Int) ∧ Below w.heap.size w u) (fun i _ => N - (intOf i).toNat)
  case atStart => exact ⟨0, Nat.zero_le _, rfl, Below.refl _ _⟩
  case round =>
    obtain ⟨k, hk, rfl, B⟩ := hrel
    have HB : Hid (Below w.heap.size w wr) := B
    have hlt : k < N := by omega
    have hkL : k < L.length := by rw [← HN.out]; exact hlt
    have hki : (k : Int) < (N : Int) := by omega
    have hC := HC.out.below HB.out
    have k2 : wr.cell? ⟨c, 2, none⟩ = some (.slice (some ⟨sg, 0, none⟩) N N) := by rw [HN.out]; exact hC.box.cell 2
    obtain ⟨c0, c1, c2, c3, c4⟩ := hC.slot k hkL
    have cE := isEmpty_at L[k] wr
    have hS : Hid (∀ u, Below wr.heap.size wr u → u.cell? ⟨c, 2, none⟩ = some (.slice (some ⟨sg, 0, none⟩) N N)) := fun u bu => by rw [HN.out]; exact (hC.below bu).box.cell 2
    have hz : L[k].row.isNone = decide (k = e) := by
      obtain ⟨h1, h2, h3⟩ := HE.out
      by_cases q : k = e
      · subst q
        rw [h2]
        simp
      · have := h3 k (by omega)
        rw [decide_eq_false q]
        cases hh : L[k].row.isNone with
        | false => rfl
        | true => exact absurd hh this
    rw [hz] at cE
    clear hz
    generalize (L[k]'hkL) = s at c0 c1 c2 c3 c4 cE
    clear hC B
    by_cases hke : k = e
    · subst hke
      rw [decide_eq_true rfl] at cE
      go_wp2_with fail
      refine cE.mono ?_
      rintro r wu2 ⟨rfl, b2⟩
      have d2 := hS.out _ b2
      have HB2 : Hid (Below w.heap.size w wu2) := HB.out.trans (b2.mono HB.out.size)
      clear c0 c1 c2 c3 c4 k2 cE b2 hS
      go_wp2_with fail
      exact bodyPost_ret (v := .pointer (some ⟨sg, k * 5, none⟩)) (by simp [results, Tryz.results121, go_sem]) rfl ⟨rfl, HB2.out⟩
    · rw [decide_eq_false hke] at cE
      go_wp2_with fail
      refine cE.mono ?_
      rintro r wu2 ⟨rfl, b2⟩
      have HB2 : Hid (Below w.heap.size w wu2) := HB.out.trans (b2.mono HB.out.size)
      clear c0 c1 c2 c3 c4 k2 cE b2 hS
      go_wp2_with fail
      go_roundw
      case rel => exact ⟨k + 1, by omega, by push_cast; rfl, HB2.out⟩
      case measure => simp [intOf]; omega
end Go.Proofs.YtnldkpckojhbhaaGreat.C

/-
  A slot is written.
-/
namespace Go.Proofs.YtnldkpckojhbhaaGreat.C
open Go.RowKit
open Go.Proofs.YtnldkpckojhbhaaGreat.Dk (Box RowB)

theorem slsC_set (L : List Sl) (i : Nat) (h : i < L.length) (s : Sl) : slsC (L.set i s) = (((((slsC L).set (i * 5) (.int .i64 s.b)).set (i * 5 + 1) s.data).set (i * 5 + 2) (.int .i64 s.pins)).set (i * 5 + 3) (.bool s.dirty)).set (i * 5 + 4) (.bool s.mark) := by
  induction L generalizing i with
  | nil => cases h
  | cons t r ih =>
    cases i with
    | zero => rfl
    | succ i =>
      have e0 : (i + 1) * 5 = i * 5 + 1 + 1 + 1 + 1 + 1 := by omega
      have c : ∀ (x : Sl) (X : List Sl), slsC (x :: X) = .int .i64 x.b :: x.data :: .int .i64 x.pins :: .bool x.dirty :: .bool x.mark :: slsC X := fun _ _ => rfl
      rw [List.set_cons_succ, c, c, e0, ih i (by simpa using h)]
      simp only [List.set_cons_succ]
theorem CD.put {w : World} {c v sg : Nat} {hand : Int} {L : List Sl} (h : CD w c v sg hand L) (i : Nat) (hi : i < L.length) (s : Sl) (hr : ∀ g cc, s.row = some (g, cc) → RowB w g cc s.xs ∧ s.xs.length = 4096) :
    CD (((((w.setCell ⟨sg, i * 5, none⟩ (.int .i64 s.b)).setCell ⟨sg, i * 5 + 1, none⟩ s.data).setCell ⟨sg, i * 5 + 2, none⟩ (.int .i64 s.pins)).setCell ⟨sg, i * 5 + 3, none⟩ (.bool s.dirty)).setCell ⟨sg, i * 5 + 4, none⟩ (.bool s.mark)) c v sg hand (L.set i s) := by
  have hk : ∀ b, b ≠ sg → (((((w.setCell ⟨sg, i * 5, none⟩ (.int .i64 s.b)).setCell ⟨sg, i * 5 + 1, none⟩ s.data).setCell ⟨sg, i * 5 + 2, none⟩ (.int .i64 s.pins)).setCell ⟨sg, i * 5 + 3, none⟩ (.bool s.dirty)).setCell ⟨sg, i * 5 + 4, none⟩ (.bool s.mark)).heap[b]? = w.heap[b]? := fun b hb => by
    repeat rw [heap_setCell_other _ _ _ _ (by exact hb)]
  have hrow : ∀ g cc ys, RowB w g cc ys → g ≠ sg := fun g cc ys hh e => by
    subst e
    obtain ⟨cur, hb, _⟩ := hh
    exact Dk.Box.ne hb h.sl (by decide) rfl
  refine ⟨?_, ?_, h.ne, fun t ht g cc e => ?_⟩
  · rw [List.length_set]
    exact (hk c h.ne).trans h.box
  · rw [slsC_set L i hi s]
    have := (((((h.sl.store (i * 5) (.int .i64 s.b)).store (i * 5 + 1) s.data).store (i * 5 + 2) (.int .i64 s.pins)).store (i * 5 + 3) (.bool s.dirty)).store (i * 5 + 4) (.bool s.mark))
    simpa using this
  · rcases List.mem_or_eq_of_mem_set ht with h1 | h1
    · obtain ⟨q1, q2⟩ := h.rows t h1 g cc e
      exact ⟨q1.same (hk g (hrow _ _ _ q1)), q2⟩
    · subst h1
      obtain ⟨q1, q2⟩ := hr g cc e
      exact ⟨q1.same (hk g (hrow _ _ _ q1)), q2⟩
end Go.Proofs.YtnldkpckojhbhaaGreat.C

/-
  Load of a block that is not held, where a slot is empty.
-/
namespace Go.Proofs.YtnldkpckojhbhaaGreat.C
open Go.RowKit
open Go.Proofs.YtnldkpckojhbhaaGreat.Dk (Box RowB Upd)

theorem isMade_at {w : World} {c v sg : Nat} {hand : Int} {L : List Sl} (h : CD w c v sg hand L) : Calls Tryz.prog 119 #[.pointer (some ⟨c, 0, none⟩)] w fun e w' => e = .returned (.bool true) ∧ w = w' := isMade_cell c w (h.box.cell 0)
set_option maxRecDepth 100000 in
set_option maxHeartbeats 2000000 in
theorem load_new {w : World} {c v sg : Nat} {hand : Int} {L : List Sl} (h : CD w c v sg hand L) (h64 : L.length ≤ 64) (n : Int) (hno : L.findIdx? (isAt n) = none) (e : Nat) (he : L.findIdx? (fun s => s.row.isNone) = some e) (zs : List UInt8) (hz : zs.length = 4096)
    (cR : ∀ u, Below w.heap.size w u → Calls Tryz.prog 24 #[.pointer (some ⟨v, 0, none⟩), .int .i64 n] u fun r w' => ∃ g c, r = .returned (.tuple #[.slice (some ⟨g, 0, none⟩) 4096 c, .int .i64 0]) ∧ u.heap.size ≤ g ∧ RowB w' g c zs ∧ Below u.heap.size u w') :
    Calls Tryz.prog 60 #[.pointer (some ⟨c, 0, none⟩), .int .i64 n] w fun r w' => ∃ g' c' g1 c1, r = .returned (.tuple #[.slice (some ⟨g', 0, none⟩) 4096 c', .int .i64 0]) ∧ w.heap.size ≤ g' ∧ w.heap.size ≤ g1 ∧ RowB w' g' c' zs ∧ CD w' c v sg hand (L.set e ⟨n, some (g1, c1), zs, 0, false, true⟩) ∧ Upd (fun i => i = sg) w w' := by
  have HC : Hid (CD w c v sg hand L) := h
  have c1 := h.box.cell 1
  have cM := isMade_at h
  have cF := find_at h h64 n
  unfold hit at cF
  rw [hno] at cF
  have HR : Hid (∀ u, Below w.heap.size w u → Calls Tryz.prog 24 #[.pointer (some ⟨v, 0, none⟩), .int .i64 n] u fun r w' => ∃ g c, r = .returned (.tuple #[.slice (some ⟨g, 0, none⟩) 4096 c, .int .i64 0]) ∧ u.heap.size ≤ g ∧ RowB w' g c zs ∧ Below u.heap.size u w') := cR
  have HE : Hid (L.findIdx? (fun s => s.row.isNone) = some e) := he
  have HL : Hid (L.length ≤ 64) := h64
  clear h cR he hno h64 c1
  go_enter Tryz.func60, Tryz.ntmps60
  go_wp2_with fail
  refine Calls.mono cM ?_
  rintro r w' ⟨rfl, rfl⟩
  clear cM
  go_wp2_with fail
  refine Calls.mono cF ?_
  rintro r wu1 ⟨rfl, b1⟩
  have HB1 : Hid (Below w.heap.size w wu1) := b1
  have d1 : wu1.cell? ⟨c, 1, none⟩ = some (.pointer (some ⟨v, 0, none⟩)) := (HC.out.below b1).box.cell 1
  have cR := HR.out wu1 b1
  clear cF b1
  go_wp2_with fail
  refine Calls.mono cR ?_
  rintro r wu2 ⟨g1, k1, rfl, hg1, r1, b2⟩
  have HB2 : Hid (Below w.heap.size w wu2) := HB1.out.trans (b2.mono HB1.out.size)
  have HR2 : Hid (RowB wu2 g1 k1 zs) := r1
  have HG1 : Hid (w.heap.size ≤ g1) := Nat.le_trans HB1.out.size hg1
  have cM := room_empty (HC.out.below HB2.out) HL.out e HE.out
  clear cR r1 b2 hg1 d1
  go_wp2_with fail
  refine Calls.mono cM ?_
  rintro r wu3 ⟨rfl, b3⟩
  have HB3 : Hid (Below w.heap.size w wu3) := HB2.out.trans (b3.mono HB2.out.size)
  have HR3 : Hid (RowB wu3 g1 k1 zs) := HR2.out.same (b3.block g1 HR2.out.lt)
  have heL : e < L.length := (List.findIdx?_eq_some_iff_getElem.1 HE.out).1
  have hC3 := HC.out.below HB3.out
  have hP := hC3.put e heL ⟨n, some (g1, k1), zs, 0, false, true⟩ (fun g cc q => by
    injection q with q
    injection q with q1 q2
    subst q1 q2
    exact ⟨HR3.out, hz⟩)
  have HX : Hid (Box wu3 sg (slsC L).toArray 175) := hC3.sl
  have fz0 := hC3.sl.frozen (e * 5)
  have fz1 := hC3.sl.frozen (e * 5 + 1)
  have fz2 := hC3.sl.frozen (e * 5 + 2)
  have fz3 := hC3.sl.frozen (e * 5 + 3)
  have fz4 := hC3.sl.frozen (e * 5 + 4)
  obtain ⟨s0, s1, s2, s3, s4⟩ := hC3.slot e heL
  clear cM b3 HR2 hC3
  go_wp2_with fail
  obtain ⟨W4, hW4⟩ : ∃ W, W = (((((wu3.setCell ⟨sg, e * 5, none⟩ (.int .i64 n)).setCell ⟨sg, e * 5 + 1, none⟩ (.slice (some ⟨g1, 0, none⟩) 4096 k1)).setCell ⟨sg, e * 5 + 2, none⟩ (.int .i64 0)).setCell ⟨sg, e * 5 + 3, none⟩ (.bool false)).setCell ⟨sg, e * 5 + 4, none⟩ (.bool true)) := ⟨_, rfl⟩
  have hP4 : CD W4 c v sg hand (L.set e ⟨n, some (g1, k1), zs, 0, false, true⟩) := by rw [hW4]; exact hP
  have hk : ∀ b, b ≠ sg → W4.heap[b]? = wu3.heap[b]? := fun b hb => by
    rw [hW4]
    repeat rw [heap_setCell_other _ _ _ _ (by exact hb)]
  have hu4 : Upd (fun i => i = sg) w W4 := by
    have u3 : Upd (fun i => i = sg) w wu3 := Dk.Upd.of_below HB3.out
    rw [hW4]
    exact ((((u3.setCell (.inl rfl) _).setCell (.inl rfl) _).setCell (.inl rfl) _).setCell (.inl rfl) _).setCell (.inl rfl) _
  have HU : Hid (Upd (fun i => i = sg) w W4) := hu4
  have HP : Hid (CD W4 c v sg hand (L.set e ⟨n, some (g1, k1), zs, 0, false, true⟩)) := hP4
  have hgs : g1 ≠ sg := by
    obtain ⟨cur, hb, _⟩ := HR3.out
    exact Dk.Box.ne hb HX.out (by decide)
  have cC := Dk.clone_at k1 4096 ⟨g1, 0, none⟩ zs W4 hz (by decide) (by decide) (HR3.out.same (hk g1 hgs)).rd
  rw [← hW4]
  clear hW4 hP hP4 hu4 fz0 fz1 fz2 fz3 fz4 s0 s1 s2 s3 s4 hk
  refine Calls.mono cC ?_
  rintro r wu5 ⟨g', c', rfl, hg', r', b5⟩
  have HP5 : Hid (CD wu5 c v sg hand (L.set e ⟨n, some (g1, k1), zs, 0, false, true⟩)) := HP.out.below b5
  have HU5 : Hid (Upd (fun i => i = sg) w wu5) := HU.out.thenB b5
  have HR5 : Hid (RowB wu5 g' c' zs) := r'
  have HG5 : Hid (w.heap.size ≤ g') := Nat.le_trans HU.out.size hg'
  clear cC r' b5 hg'
  go_wp2_with fail
  exact bodyPost_ret (v := .tuple #[.slice (some ⟨g', 0, none⟩) 4096 c', .int .i64 0]) (by simp [results, Tryz.results60, go_sem]) rfl ⟨g', c', g1, k1, rfl, HG5.out, HG1.out, HR5.out, HP5.out, HU5.out⟩
end Go.Proofs.YtnldkpckojhbhaaGreat.C

/-
  Load and Pin of a block that is held.
-/
namespace Go.Proofs.YtnldkpckojhbhaaGreat.C
open Go.RowKit
open Go.Proofs.YtnldkpckojhbhaaGreat.Dk (Box RowB Upd)

theorem slsC_one (L : List Sl) (i : Nat) (h : i < L.length) (s : Sl) (k : Nat) (hk : k < 5) (x : Value) (hs : slC s = (slC L[i]).set k x) : slsC (L.set i s) = (slsC L).set (i * 5 + k) x := by
  induction L generalizing i with
  | nil => cases h
  | cons t r ih =>
    cases i with
    | zero =>
      have hs : slC s = (slC t).set k x := hs
      show slC s ++ slsC r = (slC t ++ slsC r).set (0 * 5 + k) x
      rw [hs, Nat.zero_mul, Nat.zero_add, List.set_append_left _ _ (by simp [slC]; omega)]
    | succ i =>
      have hs : slC s = (slC (r[i]'(by simpa using h))).set k x := hs
      show slC t ++ slsC (r.set i s) = (slC t ++ slsC r).set ((i + 1) * 5 + k) x
      rw [ih i (by simpa using h) hs, List.set_append_right _ _ (by simp [slC]; omega)]
      have e : (i + 1) * 5 + k - (slC t).length = i * 5 + k := by simp [slC]; omega
      rw [e]
theorem CD.one {w : World} {c v sg : Nat} {hand : Int} {L : List Sl} (h : CD w c v sg hand L) (i : Nat) (hi : i < L.length) (s : Sl) (k : Nat) (hk : k < 5) (x : Value) (hs : slC s = (slC L[i]).set k x) (hr : s.row = L[i].row ∧ s.xs = L[i].xs) :
    CD (w.setCell ⟨sg, i * 5 + k, none⟩ x) c v sg hand (L.set i s) := by
  have hkp : ∀ b, b ≠ sg → (w.setCell ⟨sg, i * 5 + k, none⟩ x).heap[b]? = w.heap[b]? := fun b hb => heap_setCell_other _ _ _ _ (by exact hb)
  have hrow : ∀ g cc ys, RowB w g cc ys → g ≠ sg := fun g cc ys hh => by
    obtain ⟨cur, hb, _⟩ := hh
    exact Dk.Box.ne hb h.sl (by decide)
  refine ⟨?_, ?_, h.ne, fun t ht g cc e => ?_⟩
  · rw [List.length_set]
    exact (hkp c h.ne).trans h.box
  · rw [slsC_one L i hi s k hk x hs]
    have := h.sl.store (i * 5 + k) x
    simpa using this
  · rcases List.mem_or_eq_of_mem_set ht with h1 | h1
    · obtain ⟨q1, q2⟩ := h.rows t h1 g cc e
      exact ⟨q1.same (hkp g (hrow _ _ _ q1)), q2⟩
    · subst h1
      rw [hr.1] at e
      obtain ⟨q1, q2⟩ := h.rows _ (List.getElem_mem hi) g cc e
      rw [hr.2]
      exact ⟨q1.same (hkp g (hrow _ _ _ q1)), q2⟩
set_option maxRecDepth 100000 in
set_option maxHeartbeats 2000000 in
theorem load_held {w : World} {c v sg : Nat} {hand : Int} {L : List Sl} (h : CD w c v sg hand L) (h64 : L.length ≤ 64) (n : Int) (i : Nat) (hi : i < L.length) (hit' : L.findIdx? (isAt n) = some i) (g k : Nat) (hrow : L[i].row = some (g, k)) :
    Calls Tryz.prog 60 #[.pointer (some ⟨c, 0, none⟩), .int .i64 n] w fun r w' => ∃ g' c', r = .returned (.tuple #[.slice (some ⟨g', 0, none⟩) 4096 c', .int .i64 0]) ∧ w.heap.size ≤ g' ∧ RowB w' g' c' L[i].xs ∧ CD w' c v sg hand (L.set i { L[i] with mark := true }) ∧ Upd (fun i => i = sg) w w' := by
  have HC : Hid (CD w c v sg hand L) := h
  have cM := isMade_at h
  have cF := find_at h h64 n
  unfold hit at cF
  rw [hit'] at cF
  have HI : Hid (∃ hi : i < L.length, L[i].row = some (g, k)) := ⟨hi, hrow⟩
  clear h hit' h64
  go_enter Tryz.func60, Tryz.ntmps60
  go_wp2_with fail
  refine Calls.mono cM ?_
  rintro r w' ⟨rfl, rfl⟩
  clear cM
  go_wp2_with fail
  refine Calls.mono cF ?_
  rintro r wu1 ⟨rfl, b1⟩
  have HB1 : Hid (Below w.heap.size w wu1) := b1
  have hC1 := HC.out.below b1
  have hP := hC1.one i hi { L[i] with mark := true } 4 (by decide) (.bool true) rfl ⟨rfl, rfl⟩
  have HP : Hid (CD (wu1.setCell ⟨sg, i * 5 + 4, none⟩ (.bool true)) c v sg hand (L.set i { L[i] with mark := true })) := hP
  have hu2 : Upd (fun i => i = sg) w (wu1.setCell ⟨sg, i * 5 + 4, none⟩ (.bool true)) := by
    have u3 : Upd (fun i => i = sg) w wu1 := Dk.Upd.of_below b1
    exact u3.setCell (.inl rfl) _
  have HU2 : Hid (Upd (fun i => i = sg) w (wu1.setCell ⟨sg, i * 5 + 4, none⟩ (.bool true))) := hu2
  obtain ⟨q1, q2⟩ := hC1.rows _ (List.getElem_mem hi) g k hrow
  have hgs : g ≠ sg := by
    obtain ⟨cur, hb, _⟩ := q1
    exact Dk.Box.ne hb hC1.sl (by decide)
  have hR2 : RowB (wu1.setCell ⟨sg, i * 5 + 4, none⟩ (.bool true)) g k L[i].xs := q1.same (heap_setCell_other _ _ _ _ (by exact hgs))
  have cC := Dk.clone_at k 4096 ⟨g, 0, none⟩ L[i].xs (wu1.setCell ⟨sg, i * 5 + 4, none⟩ (.bool true)) q2 (by decide) (by decide) hR2.rd
  have fz4 := hC1.sl.frozen (i * 5 + 4)
  obtain ⟨s0, s1, s2, s3, s4⟩ := hC1.slot i hi
  have s1' : (wu1.setCell ⟨sg, i * 5 + 4, none⟩ (.bool true)).cell? ⟨sg, i * 5 + 1, none⟩ = some (.slice (some ⟨g, 0, none⟩) 4096 k) := by
    have hlt : i < (L.set i { L[i] with mark := true }).length := by rw [List.length_set]; exact hi
    have := (hP.slot i hlt).c1
    rw [List.getElem_set_self] at this
    unfold Sl.data at this
    dsimp only at this
    rw [hrow] at this
    exact this
  clear cF b1 hC1 hP hu2 q1 hgs hR2 s0 s1 s2 s3 hrow
  go_wp2_with fail
  refine Calls.mono cC ?_
  rintro r wu3 ⟨g', c', rfl, hg', r', b3⟩
  have HP3 : Hid (CD wu3 c v sg hand (L.set i { L[i] with mark := true })) := HP.out.below b3
  have HU3 : Hid (Upd (fun i => i = sg) w wu3) := HU2.out.thenB b3
  have HR3 : Hid (RowB wu3 g' c' L[i].xs) := r'
  have HG3 : Hid (w.heap.size ≤ g') := Nat.le_trans HU2.out.size hg'
  clear cC r' b3 hg' s1' s4 fz4
  go_wp2_with fail
  exact bodyPost_ret (v := .tuple #[.slice (some ⟨g', 0, none⟩) 4096 c', .int .i64 0]) (by simp [results, Tryz.results60, go_sem]) rfl ⟨g', c', rfl, HG3.out, HR3.out, HP3.out, HU3.out⟩
theorem held_at {w : World} {c v sg : Nat} {hand : Int} {L : List Sl} (h : CD w c v sg hand L) (h64 : L.length ≤ 64) (n : Int) (i : Nat) (hit' : L.findIdx? (isAt n) = some i) :
    Calls Tryz.prog 123 #[.pointer (some ⟨c, 0, none⟩), .int .i64 n] w fun r w' => r = .returned (.tuple #[.pointer (some ⟨sg, i * 5, none⟩), .int .i64 0]) ∧ Below w.heap.size w w' := by
  have cM := isMade_at h
  have cF := find_at h h64 n
  unfold hit at cF
  rw [hit'] at cF
  clear h hit'
  go_enter Tryz.func123, Tryz.ntmps123
  go_wp2_with fail
  refine Calls.mono cM ?_
  rintro r w' ⟨rfl, rfl⟩
  clear cM
  go_wp2_with fail
  refine Calls.mono cF ?_
  rintro r wu1 ⟨rfl, b1⟩
  clear cF
  go_wp2_with fail
  exact bodyPost_ret (v := .tuple #[.pointer (some ⟨sg, i * 5, none⟩), .int .i64 0]) (by simp [results, Tryz.results123, go_sem]) rfl ⟨rfl, b1⟩
theorem held_none {w : World} {c v sg : Nat} {hand : Int} {L : List Sl} (h : CD w c v sg hand L) (h64 : L.length ≤ 64) (n : Int) (hno : L.findIdx? (isAt n) = none) :
    Calls Tryz.prog 123 #[.pointer (some ⟨c, 0, none⟩), .int .i64 n] w fun r w' => r = .returned (.tuple #[.pointer none, .int .i64 2]) ∧ Below w.heap.size w w' := by
  have cM := isMade_at h
  have cF := find_at h h64 n
  unfold hit at cF
  rw [hno] at cF
  clear h hno
  go_enter Tryz.func123, Tryz.ntmps123
  go_wp2_with fail
  refine Calls.mono cM ?_
  rintro r w' ⟨rfl, rfl⟩
  clear cM
  go_wp2_with fail
  refine Calls.mono cF ?_
  rintro r wu1 ⟨rfl, b1⟩
  clear cF
  go_wp2_with fail
  exact bodyPost_ret (v := .tuple #[.pointer none, .int .i64 2]) (by simp [results, Tryz.results123, go_sem]) rfl ⟨rfl, b1⟩
end Go.Proofs.YtnldkpckojhbhaaGreat.C

/-
  Pin, Unpin and Put of a block that is held or not.
-/
namespace Go.Proofs.YtnldkpckojhbhaaGreat.C
open Go.RowKit
open Go.Proofs.YtnldkpckojhbhaaGreat.Dk (Box RowB Upd Rd)

theorem CD.cell {w : World} {c v sg : Nat} {hand : Int} {L : List Sl} (h : CD w c v sg hand L) (i : Nat) (hi : i < L.length) (s : Sl) (k : Nat) (hk : k < 5) (x : Value) (hs : slC s = (slC L[i]).set k x) (hr : ∀ g cc, s.row = some (g, cc) → RowB w g cc s.xs ∧ s.xs.length = 4096) :
    CD (w.setCell ⟨sg, i * 5 + k, none⟩ x) c v sg hand (L.set i s) := by
  have hkp : ∀ b, b ≠ sg → (w.setCell ⟨sg, i * 5 + k, none⟩ x).heap[b]? = w.heap[b]? := fun b hb => heap_setCell_other _ _ _ _ (by exact hb)
  have hrow : ∀ g cc ys, RowB w g cc ys → g ≠ sg := fun g cc ys hh => by
    obtain ⟨cur, hb, _⟩ := hh
    exact Dk.Box.ne hb h.sl (by decide)
  refine ⟨?_, ?_, h.ne, fun t ht g cc e => ?_⟩
  · rw [List.length_set]
    exact (hkp c h.ne).trans h.box
  · rw [slsC_one L i hi s k hk x hs]
    have := h.sl.store (i * 5 + k) x
    simpa using this
  · rcases List.mem_or_eq_of_mem_set ht with h1 | h1
    · obtain ⟨q1, q2⟩ := h.rows t h1 g cc e
      exact ⟨q1.same (hkp g (hrow _ _ _ q1)), q2⟩
    · subst h1
      obtain ⟨q1, q2⟩ := hr g cc e
      exact ⟨q1.same (hkp g (hrow _ _ _ q1)), q2⟩
theorem unpin_out {w : World} {c v sg : Nat} {hand : Int} {L : List Sl} (h : CD w c v sg hand L) (h64 : L.length ≤ 64) (n : Int) (hno : L.findIdx? (isAt n) = none) :
    Calls Tryz.prog 66 #[.pointer (some ⟨c, 0, none⟩), .int .i64 n] w fun r w' => r = .returned (.int .i64 2) ∧ Below w.heap.size w w' := by
  have cH := held_none h h64 n hno
  clear h hno
  go_enter Tryz.func66, Tryz.ntmps66
  go_wp2_with fail
  refine Calls.mono cH ?_
  rintro r wu1 ⟨rfl, b1⟩
  clear cH
  go_wp2_with fail
  go_ret
  exact ⟨rfl, b1⟩
set_option maxRecDepth 100000 in
theorem pin_ok {w : World} {c v sg : Nat} {hand : Int} {L : List Sl} (h : CD w c v sg hand L) (h64 : L.length ≤ 64) (n : Int) (i : Nat) (hi : i < L.length) (hit' : L.findIdx? (isAt n) = some i) (p : Int) (hp : L[i].pins = p) (h0 : 0 ≤ p) (h1 : p < 1000) :
    Calls Tryz.prog 62 #[.pointer (some ⟨c, 0, none⟩), .int .i64 n] w fun r w' => r = .returned (.int .i64 0) ∧ CD w' c v sg hand (L.set i { L[i] with pins := p + 1 }) ∧ Upd (fun i => i = sg) w w' := by
  have HC : Hid (CD w c v sg hand L) := h
  have cH := held_at h h64 n i hit'
  clear h hit'
  go_enter Tryz.func62, Tryz.ntmps62
  go_wp2_with fail
  refine Calls.mono cH ?_
  rintro r wu1 ⟨rfl, b1⟩
  have hC1 := HC.out.below b1
  have hP := hC1.cell i hi { L[i] with pins := p + 1 } 2 (by decide) (.int .i64 (p + 1)) rfl (fun g cc e => hC1.rows _ (List.getElem_mem hi) g cc e)
  have HP : Hid (CD (wu1.setCell ⟨sg, i * 5 + 2, none⟩ (.int .i64 (p + 1))) c v sg hand (L.set i { L[i] with pins := p + 1 })) := hP
  have u3 : Upd (fun i => i = sg) w wu1 := Dk.Upd.of_below b1
  have hu2 : Upd (fun i => i = sg) w (wu1.setCell ⟨sg, i * 5 + 2, none⟩ (.int .i64 (p + 1))) := u3.setCell (.inl rfl) _
  have HU2 : Hid (Upd (fun i => i = sg) w (wu1.setCell ⟨sg, i * 5 + 2, none⟩ (.int .i64 (p + 1)))) := hu2
  have fz := hC1.sl.frozen (i * 5 + 2)
  have s2 := (hC1.slot i hi).c2
  rw [hp] at s2
  clear cH b1 hC1 hP hu2 u3 hp
  go_wp2_with fail
  go_ret
  exact ⟨rfl, HP.out, HU2.out⟩
set_option maxRecDepth 100000 in
set_option maxHeartbeats 2000000 in
theorem put_ok {w : World} {c v sg : Nat} {hand : Int} {L : List Sl} (h : CD w c v sg hand L) (h64 : L.length ≤ 64) (n : Int) (i : Nat) (hi : i < L.length) (hit' : L.findIdx? (isAt n) = some i) (a : Addr) (ca : Nat) (ys : List UInt8) (hy : ys.length = 4096) (hr : Rd w (some a) ys) :
    Calls Tryz.prog 63 #[.pointer (some ⟨c, 0, none⟩), .int .i64 n, .slice (some a) 4096 ca] w fun r w' => r = .returned (.int .i64 0) ∧ ∃ g k, w.heap.size ≤ g ∧ CD w' c v sg hand (L.set i { L[i] with row := some (g, k), xs := ys, dirty := true, mark := true }) ∧ Upd (fun i => i = sg) w w' := by
  have HC : Hid (CD w c v sg hand L) := h
  have HR : Hid (Rd w (some a) ys) := hr
  have cH := held_at h h64 n i hit'
  clear h hit' hr
  go_enter Tryz.func63, Tryz.ntmps63
  go_wp2_with fail
  refine Calls.mono cH ?_
  rintro r wu1 ⟨rfl, b1⟩
  have HB1 : Hid (Below w.heap.size w wu1) := b1
  have cC := Dk.clone_at ca 4096 a ys wu1 hy (by decide) (by decide) (HR.out.below b1 (Nat.le_refl _))
  clear cH b1
  go_wp2_with fail
  refine Calls.mono cC ?_
  rintro r wu2 ⟨g, k, rfl, hg, r2, b2⟩
  have HB2 : Hid (Below w.heap.size w wu2) := HB1.out.trans (b2.mono HB1.out.size)
  have hC2 := HC.out.below HB2.out
  have p1 := hC2.cell i hi { L[i] with row := some (g, k), xs := ys } 1 (by decide) (.slice (some ⟨g, 0, none⟩) 4096 k) rfl (fun g' cc e => by
    injection e with e
    injection e with e1 e2
    subst e1 e2
    exact ⟨r2, hy⟩)
  have hl1 : i < (L.set i { L[i] with row := some (g, k), xs := ys }).length := by rw [List.length_set]; exact hi
  have p2 := p1.cell i hl1 { L[i] with row := some (g, k), xs := ys, dirty := true } 3 (by decide) (.bool true) (by rw [List.getElem_set_self]; rfl) (fun g' cc e => p1.rows _ (List.mem_set hi _) g' cc e)
  rw [List.set_set] at p2
  have hl2 : i < (L.set i { L[i] with row := some (g, k), xs := ys, dirty := true }).length := by rw [List.length_set]; exact hi
  have p3 := p2.cell i hl2 { L[i] with row := some (g, k), xs := ys, dirty := true, mark := true } 4 (by decide) (.bool true) (by rw [List.getElem_set_self]; rfl) (fun g' cc e => p2.rows _ (List.mem_set hi _) g' cc e)
  rw [List.set_set] at p3
  have u3 : Upd (fun i => i = sg) w wu2 := Dk.Upd.of_below HB2.out
  have u4 := ((u3.setCell (j := i * 5 + 1) (.inl rfl) (.slice (some ⟨g, 0, none⟩) 4096 k)).setCell (j := i * 5 + 3) (.inl rfl) (.bool true)).setCell (j := i * 5 + 4) (.inl rfl) (.bool true)
  have HP : Hid (CD (((wu2.setCell ⟨sg, i * 5 + 1, none⟩ (.slice (some ⟨g, 0, none⟩) 4096 k)).setCell ⟨sg, i * 5 + 3, none⟩ (.bool true)).setCell ⟨sg, i * 5 + 4, none⟩ (.bool true)) c v sg hand (L.set i { L[i] with row := some (g, k), xs := ys, dirty := true, mark := true })) := p3
  have HU : Hid (Upd (fun i => i = sg) w (((wu2.setCell ⟨sg, i * 5 + 1, none⟩ (.slice (some ⟨g, 0, none⟩) 4096 k)).setCell ⟨sg, i * 5 + 3, none⟩ (.bool true)).setCell ⟨sg, i * 5 + 4, none⟩ (.bool true))) := u4
  have HG : Hid (w.heap.size ≤ g) := Nat.le_trans HB1.out.size hg
  have z1 := hC2.sl.frozen (i * 5 + 1)
  have z3 := p1.sl.frozen (i * 5 + 3)
  have z4 := p2.sl.frozen (i * 5 + 4)
  obtain ⟨s0, s1, s2, s3, s4⟩ := hC2.slot i hi
  have t3 := (p1.slot i hl1).c3
  have t4 := (p2.slot i hl2).c4
  rw [List.getElem_set_self] at t3 t4
  clear cC r2 b2 hC2 p1 p2 p3 u3 u4 hl1 hl2 hg
  go_wp2_with fail
  go_ret
  exact ⟨rfl, g, k, HG.out, HP.out, HU.out⟩
end Go.Proofs.YtnldkpckojhbhaaGreat.C

/-
  makeRoom where all slots are full: the clock.
-/
namespace Go.Proofs.YtnldkpckojhbhaaGreat.C
open Go.RowKit
open Go.Proofs.YtnldkpckojhbhaaGreat.Dk (Box RowB Upd)

def stays (s : Sl) : Bool := decide (0 < s.pins) || s.dirty
def clock : Nat → List Sl → Nat → List Sl × Nat × Option Nat
  | 0, L, h => (L, h, none)
  | f + 1, L, h => match L[h]? with
    | none => (L, h, none)
    | some s => if stays s then clock f L ((h + 1) % L.length) else if s.mark then clock f (L.set h { s with mark := false }) ((h + 1) % L.length) else (L.set h empty, (h + 1) % L.length, some h)
theorem clock_stays (f : Nat) (L : List Sl) (h : Nat) (hl : h < L.length) (hs : stays L[h] = true) : clock (f + 1) L h = clock f L ((h + 1) % L.length) := by
  rw [clock, List.getElem?_eq_getElem hl]
  dsimp only
  rw [if_pos hs]
theorem clock_mark (f : Nat) (L : List Sl) (h : Nat) (hl : h < L.length) (hs : stays L[h] = false) (hm : L[h].mark = true) : clock (f + 1) L h = clock f (L.set h { L[h] with mark := false }) ((h + 1) % L.length) := by
  rw [clock, List.getElem?_eq_getElem hl]
  dsimp only
  rw [if_neg (by rw [hs]; exact Bool.false_ne_true), if_pos hm]
theorem clock_take (f : Nat) (L : List Sl) (h : Nat) (hl : h < L.length) (hs : stays L[h] = false) (hm : L[h].mark = false) : clock (f + 1) L h = (L.set h empty, (h + 1) % L.length, some h) := by
  rw [clock, List.getElem?_eq_getElem hl]
  dsimp only
  rw [if_neg (by rw [hs]; exact Bool.false_ne_true), if_neg (by rw [hm]; exact Bool.false_ne_true)]
theorem CD.hand {w : World} {c v sg : Nat} {h h' : Int} {L : List Sl} (k : CD w c v sg h L) : CD (w.setCell ⟨c, 3, none⟩ (.int .i64 h')) c v sg h' L := by
  have hkp : ∀ b, b ≠ c → (w.setCell ⟨c, 3, none⟩ (.int .i64 h')).heap[b]? = w.heap[b]? := fun b hb => heap_setCell_other _ _ _ _ (by exact hb)
  refine ⟨?_, (hkp sg k.ne.symm).trans k.sl, k.ne, fun t ht g cc e => ?_⟩
  · have := k.box.store 3 (.int .i64 h')
    simpa [cC] using this
  · obtain ⟨q1, q2⟩ := k.rows t ht g cc e
    refine ⟨q1.same (hkp g ?_), q2⟩
    obtain ⟨cur, hb, _⟩ := q1
    exact Dk.Box.ne hb k.box (by decide)
set_option maxRecDepth 100000 in
set_option maxHeartbeats 4000000 in
theorem room_clock {w : World} {c v sg hand N : Nat} {L : List Sl} (h : CD w c v sg hand L) (hN : L.length = N) (hN1 : 1 ≤ N) (h64 : N ≤ 64) (hh : hand < N) (hfull : ∀ j (hj : j < L.length), L[j].row.isNone = false) (L' : List Sl) (h' : Nat) (o : Option Nat) (hcl : clock (2 * N) L hand = (L', h', o)) :
    Calls Tryz.prog 121 #[.pointer (some ⟨c, 0, none⟩)] w fun r w' => r = .returned (.pointer (o.map fun i => ⟨sg, i * 5, none⟩)) ∧ CD w' c v sg h' L' ∧ Upd (fun i => i = sg ∨ i = c) w w' := by
  have HC : Hid (CD w c v sg hand L) := h
  have HN : Hid (L.length = N) := hN
  have HF : Hid (∀ j (hj : j < L.length), L[j].row.isNone = false) := hfull
  have HCl : Hid (clock (2 * N) L hand = (L', h', o)) := hcl
  have k2 : w.cell? ⟨c, 2, none⟩ = some (.slice (some ⟨sg, 0, none⟩) N N) := by rw [← hN]; exact h.box.cell 2
  clear h hN hfull hcl
  go_enter Tryz.func121, Tryz.ntmps121
  go_wp2_with fail
  clear k2
  go_loopw [10] (fun i u => ∃ k : Nat, k ≤ N ∧ i = .int .i64 (k : Int) ∧ Below w.heap.size w u) (fun i _ => N - (intOf i).toNat)
  case atStart => exact ⟨0, Nat.zero_le _, rfl, Below.refl _ _⟩
  case round =>
    obtain ⟨k, hk, rfl, B⟩ := hrel
    have HB : Hid (Below w.heap.size w wr) := B
    have hC := HC.out.below B
    have k2 : wr.cell? ⟨c, 2, none⟩ = some (.slice (some ⟨sg, 0, none⟩) N N) := by rw [← HN.out]; exact hC.box.cell 2
    clear B
    by_cases hlt : k < N
    · have hkL : k < L.length := by rw [HN.out]; exact hlt
      have hki : (k : Int) < (N : Int) := by omega
      obtain ⟨c0, c1, c2, c3, c4⟩ := hC.slot k hkL
      have cE := isEmpty_at L[k] wr
      rw [HF.out k hkL] at cE
      generalize (L[k]'hkL) = s at c0 c1 c2 c3 c4 cE
      clear hC
      go_wp2_with fail
      refine cE.mono ?_
      rintro r wu2 ⟨rfl, b2⟩
      have HB2 : Hid (Below w.heap.size w wu2) := HB.out.trans (b2.mono HB.out.size)
      clear c0 c1 c2 c3 c4 k2 cE b2
      go_wp2_with fail
      go_roundw
      case rel => exact ⟨k + 1, by omega, by push_cast; rfl, HB2.out⟩
      case measure => simp [intOf]; omega
    · have hkN : k = N := by omega
      subst hkN
      clear hC hlt hk
      go_wp2_with fail
      go_loopw [34] (fun i u => ∃ (t : Nat) (L2 : List Sl) (h2 : Nat), t ≤ 2 * k ∧ i = .int .i64 (t : Int) ∧ CD u c v sg h2 L2 ∧ L2.length = k ∧ h2 < k ∧ clock (2 * k - t) L2 h2 = (L', h', o) ∧ Upd (fun i => i = sg ∨ i = c) w u) (fun i _ => 2 * k - (intOf i).toNat)
      case atStart => exact ⟨0, L, hand, Nat.zero_le _, rfl, HC.out.below HB.out, HN.out, hh, HCl.out, Dk.Upd.of_below HB.out⟩
      case round =>
        obtain ⟨t, L2, h2, ht, rfl, hC2, hl2, hh2, hcl2, hU2⟩ := hrel
        have HC2 : Hid (CD wr c v sg h2 L2) := hC2
        have HL2 : Hid (L2.length = k) := hl2
        have HCl2 : Hid (clock (2 * k - t) L2 h2 = (L', h', o)) := hcl2
        have HU2 : Hid (Upd (fun i => i = sg ∨ i = c) w wr) := hU2
        clear hC2 hl2 hcl2 hU2
        by_cases hlt : t < 2 * k
        · have hti : (t : Int) < 2 * (k : Int) := by omega
          have hh2i : (h2 : Int) < (k : Int) := by omega
          have hh20 : (0 : Int) ≤ (h2 : Int) := by omega
          have k2 : wr.cell? ⟨c, 2, none⟩ = some (.slice (some ⟨sg, 0, none⟩) k k) := by rw [← HL2.out]; exact HC2.out.box.cell 2
          have k3 : wr.cell? ⟨c, 3, none⟩ = some (.int .i64 (h2 : Int)) := HC2.out.box.cell 3
          go_wp2_with fail
          go_quiet (fail)
          have bd : Below wr.heap.size wr (wr.drewN nq) := ⟨rfl, rfl, rfl, Nat.le_refl _, fun _ _ => rfl⟩
          have HC3 : Hid (CD (wr.drewN nq) c v sg h2 L2) := HC2.out.below bd
          have HU3 : Hid (Upd (fun i => i = sg ∨ i = c) w (wr.drewN nq)) := HU2.out.thenB bd
          obtain ⟨W3, hW3⟩ : ∃ W, W = wr.drewN nq := ⟨_, rfl⟩
          rw [← hW3] at HC3 HU3 ⊢
          clear hW3 bd k2 k3 HC2 HU2
          have k2 : W3.cell? ⟨c, 2, none⟩ = some (.slice (some ⟨sg, 0, none⟩) k k) := by rw [← HL2.out]; exact HC3.out.box.cell 2
          have k3 : W3.cell? ⟨c, 3, none⟩ = some (.int .i64 (h2 : Int)) := HC3.out.box.cell 3
          have kf := HC3.out.box.frozen 3
          have hrem : ((h2 : Int) + 1).tmod (k : Int) = (((h2 + 1) % k : Nat) : Int) := by
            rw [Int.tmod_eq_emod_of_nonneg (by omega)]
            push_cast
            rfl
          have hk0 : (k : Int) ≠ 0 := by omega
          go_wp2_with fail
          go_region
          have e3 : (((h2 + 1) % k : Nat) : Int) = ((h2 : Int) + 1) % (k : Int) := by push_cast; rfl
          have hC4 : CD (W3.setCell ⟨c, 3, none⟩ (.int .i64 (((h2 : Int) + 1) % (k : Int)))).drew c v sg ((h2 + 1) % k : Nat) L2 := by
            rw [← e3]
            exact (CD.hand HC3.out).below ((Below.refl _ _).drew)
          have u4 : Upd (fun i => i = sg ∨ i = c) w (W3.setCell ⟨c, 3, none⟩ (.int .i64 (((h2 : Int) + 1) % (k : Int)))).drew := (HU3.out.setCell (.inr rfl |> Or.inl) _).drew
          obtain ⟨W4, hW4⟩ : ∃ W, W = (W3.setCell ⟨c, 3, none⟩ (.int .i64 (((h2 : Int) + 1) % (k : Int)))).drew := ⟨_, rfl⟩
          rw [← hW4] at hC4 u4 ⊢
          have HC4 : Hid (CD W4 c v sg ((h2 + 1) % k : Nat) L2) := hC4
          have HU4 : Hid (Upd (fun i => i = sg ∨ i = c) w W4) := u4
          have hm2 : (h2 + 1) % k < k := Nat.mod_lt _ (by omega)
          have hlL : h2 < L2.length := by rw [HL2.out]; exact hh2
          obtain ⟨f, hf⟩ : ∃ f, 2 * k - t = f + 1 := ⟨2 * k - t - 1, by omega⟩
          have hf2 : Hid (2 * k - (t + 1) = f) := by show 2 * k - (t + 1) = f; omega
          rw [hf] at HCl2
          have cS : Calls Tryz.prog 179 #[.agg #[.int .i64 L2[h2].b, L2[h2].data, .int .i64 L2[h2].pins, .bool L2[h2].dirty, .bool L2[h2].mark]] W4 fun e w' => e = .returned (.bool (stays L2[h2])) ∧ Below W4.heap.size W4 w' := stays_at L2[h2] W4
          obtain ⟨s0, s1, s2, s3, s4⟩ := hC4.slot h2 hlL
          clear hW4 hC4 u4 k2 k3 kf hrem hk0 e3 HC3 HU3 hf
          cases hst : stays L2[h2] with
          | true =>
            rw [hst] at cS
            have hnx := HCl2.out
            rw [clock_stays f L2 h2 hlL hst, HL2.out] at hnx
            have HNx : Hid (clock (2 * k - (t + 1)) L2 ((h2 + 1) % k) = (L', h', o)) := by
              have q := hf2.out
              show clock (2 * k - (t + 1)) L2 ((h2 + 1) % k) = (L', h', o)
              rw [q]
              exact hnx
            clear hnx hst
            go_wp2_with fail
            refine cS.mono ?_
            rintro r wu5 ⟨rfl, b5⟩
            have HC5 : Hid (CD wu5 c v sg ((h2 + 1) % k : Nat) L2) := HC4.out.below b5
            have HU5 : Hid (Upd (fun i => i = sg ∨ i = c) w wu5) := HU4.out.thenB b5
            clear cS b5 s0 s1 s2 s3 s4
            go_wp2_with fail
            go_roundw
            case rel => exact ⟨t + 1, L2, (h2 + 1) % k, by omega, by push_cast; rfl, HC5.out, HL2.out, hm2, HNx.out, HU5.out⟩
            case measure => simp [intOf]; omega
          | false =>
            rw [hst] at cS
            go_wp2_with fail
            refine cS.mono ?_
            rintro r wu5 ⟨rfl, b5⟩
            have hC5 := HC4.out.below b5
            have HU5 : Hid (Upd (fun i => i = sg ∨ i = c) w wu5) := HU4.out.thenB b5
            clear cS b5 s0 s1 s2 s3 s4
            obtain ⟨s0, s1, s2, s3, s4⟩ := hC5.slot h2 hlL
            have fz0 := hC5.sl.frozen (h2 * 5)
            have fz1 := hC5.sl.frozen (h2 * 5 + 1)
            have fz2 := hC5.sl.frozen (h2 * 5 + 2)
            have fz3 := hC5.sl.frozen (h2 * 5 + 3)
            have fz4 := hC5.sl.frozen (h2 * 5 + 4)
            cases hmk : L2[h2].mark with
            | true =>
              rw [hmk] at s4
              have p1 := hC5.one h2 hlL { L2[h2] with mark := false } 4 (by decide) (.bool false) rfl ⟨rfl, rfl⟩
              have HP1 : Hid (CD (wu5.setCell ⟨sg, h2 * 5 + 4, none⟩ (.bool false)) c v sg ((h2 + 1) % k : Nat) (L2.set h2 { L2[h2] with mark := false })) := p1
              have HU6 : Hid (Upd (fun i => i = sg ∨ i = c) w (wu5.setCell ⟨sg, h2 * 5 + 4, none⟩ (.bool false))) := HU5.out.setCell (.inl (.inl rfl)) _
              have hnx := HCl2.out
              rw [clock_mark f L2 h2 hlL hst hmk, HL2.out] at hnx
              have HNx : Hid (clock (2 * k - (t + 1)) (L2.set h2 { L2[h2] with mark := false }) ((h2 + 1) % k) = (L', h', o)) := by
                have q := hf2.out
                show clock (2 * k - (t + 1)) (L2.set h2 { L2[h2] with mark := false }) ((h2 + 1) % k) = (L', h', o)
                rw [q]
                exact hnx
              have HLn : Hid ((L2.set h2 { L2[h2] with mark := false }).length = k) := by
                show (L2.set h2 { L2[h2] with mark := false }).length = k
                rw [List.length_set]; exact HL2.out
              clear hnx hst hmk p1 hC5
              go_wp2_with fail
              go_roundw
              case rel => exact ⟨t + 1, _, (h2 + 1) % k, by omega, by push_cast; rfl, HP1.out, HLn.out, hm2, HNx.out, HU6.out⟩
              case measure => simp [intOf]; omega
            | false =>
              rw [hmk] at s4
              have p1 := hC5.put h2 hlL empty (fun g cc e => by cases e)
              have hnx := HCl2.out
              rw [clock_take f L2 h2 hlL hst hmk, HL2.out] at hnx
              injection hnx with z1 z2
              injection z2 with z2 z3
              subst z1 z2 z3
              have HP1 : Hid (CD (((((wu5.setCell ⟨sg, h2 * 5, none⟩ (.int .i64 0)).setCell ⟨sg, h2 * 5 + 1, none⟩ (.slice none 0 0)).setCell ⟨sg, h2 * 5 + 2, none⟩ (.int .i64 0)).setCell ⟨sg, h2 * 5 + 3, none⟩ (.bool false)).setCell ⟨sg, h2 * 5 + 4, none⟩ (.bool false)) c v sg ((h2 + 1) % k : Nat) (L2.set h2 empty)) := p1
              have u6 := ((((HU5.out.setCell (j := h2 * 5) (.inl (.inl rfl)) (.int .i64 0)).setCell (j := h2 * 5 + 1) (.inl (.inl rfl)) (.slice none 0 0)).setCell (j := h2 * 5 + 2) (.inl (.inl rfl)) (.int .i64 0)).setCell (j := h2 * 5 + 3) (.inl (.inl rfl)) (.bool false)).setCell (j := h2 * 5 + 4) (.inl (.inl rfl)) (.bool false)
              have HU6 : Hid (Upd (fun i => i = sg ∨ i = c) w (((((wu5.setCell ⟨sg, h2 * 5, none⟩ (.int .i64 0)).setCell ⟨sg, h2 * 5 + 1, none⟩ (.slice none 0 0)).setCell ⟨sg, h2 * 5 + 2, none⟩ (.int .i64 0)).setCell ⟨sg, h2 * 5 + 3, none⟩ (.bool false)).setCell ⟨sg, h2 * 5 + 4, none⟩ (.bool false))) := u6
              clear hst hmk p1 hC5 u6
              go_wp2_with fail
              exact bodyPost_ret (v := .pointer (some ⟨sg, h2 * 5, none⟩)) (by simp [results, Tryz.results121, go_sem]) rfl ⟨rfl, HP1.out, HU6.out⟩
        · have htk : t = 2 * k := by omega
          subst htk
          have hz := HCl2.out
          rw [Nat.sub_self] at hz
          unfold clock at hz
          injection hz with z1 z2
          injection z2 with z2 z3
          subst z1 z2 z3
          go_wp2_with fail
          exact bodyPost_ret (v := .pointer none) (by simp [results, Tryz.results121, go_sem]) rfl ⟨rfl, HC2.out, HU2.out⟩
end Go.Proofs.YtnldkpckojhbhaaGreat.C

/-
  Load of a block that is not held, where all slots are full.
-/
namespace Go.Proofs.YtnldkpckojhbhaaGreat.C
open Go.RowKit
open Go.Proofs.YtnldkpckojhbhaaGreat.Dk (Box RowB Upd)

set_option maxRecDepth 100000 in
set_option maxHeartbeats 2000000 in
theorem load_clock {w : World} {c v sg hand N : Nat} {L : List Sl} (h : CD w c v sg hand L) (hN : L.length = N) (hN1 : 1 ≤ N) (h64 : N ≤ 64) (hh : hand < N) (hfull : ∀ j (hj : j < L.length), L[j].row.isNone = false) (L' : List Sl) (h' e : Nat) (hcl : clock (2 * N) L hand = (L', h', some e)) (heL : e < L'.length) (n : Int) (hno : L.findIdx? (isAt n) = none) (zs : List UInt8) (hz : zs.length = 4096)
    (cR : ∀ u, Below w.heap.size w u → Calls Tryz.prog 24 #[.pointer (some ⟨v, 0, none⟩), .int .i64 n] u fun r w' => ∃ g c, r = .returned (.tuple #[.slice (some ⟨g, 0, none⟩) 4096 c, .int .i64 0]) ∧ u.heap.size ≤ g ∧ RowB w' g c zs ∧ Below u.heap.size u w') :
    Calls Tryz.prog 60 #[.pointer (some ⟨c, 0, none⟩), .int .i64 n] w fun r w' => ∃ g' c' g1 c1, r = .returned (.tuple #[.slice (some ⟨g', 0, none⟩) 4096 c', .int .i64 0]) ∧ w.heap.size ≤ g' ∧ w.heap.size ≤ g1 ∧ RowB w' g' c' zs ∧ CD w' c v sg h' (L'.set e ⟨n, some (g1, c1), zs, 0, false, true⟩) ∧ Upd (fun i => i = sg ∨ i = c) w w' := by
  have HC : Hid (CD w c v sg hand L) := h
  have cM := isMade_at h
  have cF := find_at h (by omega) n
  unfold hit at cF
  rw [hno] at cF
  have HR : Hid (∀ u, Below w.heap.size w u → Calls Tryz.prog 24 #[.pointer (some ⟨v, 0, none⟩), .int .i64 n] u fun r w' => ∃ g c, r = .returned (.tuple #[.slice (some ⟨g, 0, none⟩) 4096 c, .int .i64 0]) ∧ u.heap.size ≤ g ∧ RowB w' g c zs ∧ Below u.heap.size u w') := cR
  have HM : Hid (∀ u, Below w.heap.size w u → Calls Tryz.prog 121 #[.pointer (some ⟨c, 0, none⟩)] u fun r w' => r = .returned (.pointer (some ⟨sg, e * 5, none⟩)) ∧ CD w' c v sg h' L' ∧ Upd (fun i => i = sg ∨ i = c) u w') := fun u bu => room_clock (h.below bu) hN hN1 h64 hh hfull L' h' (some e) hcl
  clear h cR hcl hno h64 hN hfull hN1 hh
  go_enter Tryz.func60, Tryz.ntmps60
  go_wp2_with fail
  refine Calls.mono cM ?_
  rintro r w' ⟨rfl, rfl⟩
  clear cM
  go_wp2_with fail
  refine Calls.mono cF ?_
  rintro r wu1 ⟨rfl, b1⟩
  have HB1 : Hid (Below w.heap.size w wu1) := b1
  have d1 : wu1.cell? ⟨c, 1, none⟩ = some (.pointer (some ⟨v, 0, none⟩)) := (HC.out.below b1).box.cell 1
  have cR := HR.out wu1 b1
  clear cF b1
  go_wp2_with fail
  refine Calls.mono cR ?_
  rintro r wu2 ⟨g1, k1, rfl, hg1, r1, b2⟩
  have HB2 : Hid (Below w.heap.size w wu2) := HB1.out.trans (b2.mono HB1.out.size)
  have HR2 : Hid (RowB wu2 g1 k1 zs) := r1
  have HG1 : Hid (w.heap.size ≤ g1) := Nat.le_trans HB1.out.size hg1
  have HNE : Hid (g1 ≠ sg ∧ g1 ≠ c) := by
    obtain ⟨cur, hb, _⟩ := r1
    exact ⟨Dk.Box.ne hb (HC.out.below HB2.out).sl (by decide), Dk.Box.ne hb (HC.out.below HB2.out).box (by decide)⟩
  have cM := HM.out wu2 HB2.out
  clear cR r1 b2 hg1 d1
  go_wp2_with fail
  refine Calls.mono cM ?_
  rintro r wu3 ⟨rfl, hC3, u3⟩
  have HR3 : Hid (RowB wu3 g1 k1 zs) := HR2.out.same (u3.block g1 HR2.out.lt (fun q => q.elim HNE.out.1 HNE.out.2))
  have HU3 : Hid (Upd (fun i => i = sg ∨ i = c) w wu3) := (Dk.Upd.of_below HB2.out).trans u3 (fun i q => .inl q)
  have hP := hC3.put e heL ⟨n, some (g1, k1), zs, 0, false, true⟩ (fun g cc q => by
    injection q with q
    injection q with q1 q2
    subst q1 q2
    exact ⟨HR3.out, hz⟩)
  have fz0 := hC3.sl.frozen (e * 5)
  have fz1 := hC3.sl.frozen (e * 5 + 1)
  have fz2 := hC3.sl.frozen (e * 5 + 2)
  have fz3 := hC3.sl.frozen (e * 5 + 3)
  have fz4 := hC3.sl.frozen (e * 5 + 4)
  obtain ⟨s0, s1, s2, s3, s4⟩ := hC3.slot e heL
  clear cM HR2 hC3 u3
  go_wp2_with fail
  obtain ⟨W4, hW4⟩ : ∃ W, W = (((((wu3.setCell ⟨sg, e * 5, none⟩ (.int .i64 n)).setCell ⟨sg, e * 5 + 1, none⟩ (.slice (some ⟨g1, 0, none⟩) 4096 k1)).setCell ⟨sg, e * 5 + 2, none⟩ (.int .i64 0)).setCell ⟨sg, e * 5 + 3, none⟩ (.bool false)).setCell ⟨sg, e * 5 + 4, none⟩ (.bool true)) := ⟨_, rfl⟩
  have hP4 : CD W4 c v sg h' (L'.set e ⟨n, some (g1, k1), zs, 0, false, true⟩) := by rw [hW4]; exact hP
  have hk : ∀ b, b ≠ sg → W4.heap[b]? = wu3.heap[b]? := fun b hb => by
    rw [hW4]
    repeat rw [heap_setCell_other _ _ _ _ (by exact hb)]
  have hu4 : Upd (fun i => i = sg ∨ i = c) w W4 := by
    rw [hW4]
    exact ((((HU3.out.setCell (.inl (.inl rfl)) _).setCell (.inl (.inl rfl)) _).setCell (.inl (.inl rfl)) _).setCell (.inl (.inl rfl)) _).setCell (.inl (.inl rfl)) _
  have HU : Hid (Upd (fun i => i = sg ∨ i = c) w W4) := hu4
  have HP : Hid (CD W4 c v sg h' (L'.set e ⟨n, some (g1, k1), zs, 0, false, true⟩)) := hP4
  have cC := Dk.clone_at k1 4096 ⟨g1, 0, none⟩ zs W4 hz (by decide) (by decide) (HR3.out.same (hk g1 HNE.out.1)).rd
  rw [← hW4]
  clear hW4 hP hP4 hu4 fz0 fz1 fz2 fz3 fz4 s0 s1 s2 s3 s4 hk
  refine Calls.mono cC ?_
  rintro r wu5 ⟨g', c', rfl, hg', r', b5⟩
  have HP5 : Hid (CD wu5 c v sg h' (L'.set e ⟨n, some (g1, k1), zs, 0, false, true⟩)) := HP.out.below b5
  have HU5 : Hid (Upd (fun i => i = sg ∨ i = c) w wu5) := HU.out.thenB b5
  have HR5 : Hid (RowB wu5 g' c' zs) := r'
  have HG5 : Hid (w.heap.size ≤ g') := Nat.le_trans HU.out.size hg'
  clear cC r' b5 hg'
  go_wp2_with fail
  exact bodyPost_ret (v := .tuple #[.slice (some ⟨g', 0, none⟩) 4096 c', .int .i64 0]) (by simp [results, Tryz.results60, go_sem]) rfl ⟨g', c', g1, k1, rfl, HG5.out, HG1.out, HR5.out, HP5.out, HU5.out⟩
set_option maxRecDepth 100000 in
set_option maxHeartbeats 2000000 in
theorem load_busy {w : World} {c v sg hand N : Nat} {L : List Sl} (h : CD w c v sg hand L) (hN : L.length = N) (hN1 : 1 ≤ N) (h64 : N ≤ 64) (hh : hand < N) (hfull : ∀ j (hj : j < L.length), L[j].row.isNone = false) (L' : List Sl) (h' : Nat) (hcl : clock (2 * N) L hand = (L', h', none)) (n : Int) (hno : L.findIdx? (isAt n) = none) (zs : List UInt8)
    (cR : ∀ u, Below w.heap.size w u → Calls Tryz.prog 24 #[.pointer (some ⟨v, 0, none⟩), .int .i64 n] u fun r w' => ∃ g c, r = .returned (.tuple #[.slice (some ⟨g, 0, none⟩) 4096 c, .int .i64 0]) ∧ u.heap.size ≤ g ∧ RowB w' g c zs ∧ Below u.heap.size u w') :
    Calls Tryz.prog 60 #[.pointer (some ⟨c, 0, none⟩), .int .i64 n] w fun r w' => r = .returned (.tuple #[.slice none 0 0, .int .i64 130]) ∧ CD w' c v sg h' L' ∧ Upd (fun i => i = sg ∨ i = c) w w' := by
  have HC : Hid (CD w c v sg hand L) := h
  have cM := isMade_at h
  have cF := find_at h (by omega) n
  unfold hit at cF
  rw [hno] at cF
  have HR : Hid (∀ u, Below w.heap.size w u → Calls Tryz.prog 24 #[.pointer (some ⟨v, 0, none⟩), .int .i64 n] u fun r w' => ∃ g c, r = .returned (.tuple #[.slice (some ⟨g, 0, none⟩) 4096 c, .int .i64 0]) ∧ u.heap.size ≤ g ∧ RowB w' g c zs ∧ Below u.heap.size u w') := cR
  have HM : Hid (∀ u, Below w.heap.size w u → Calls Tryz.prog 121 #[.pointer (some ⟨c, 0, none⟩)] u fun r w' => r = .returned (.pointer none) ∧ CD w' c v sg h' L' ∧ Upd (fun i => i = sg ∨ i = c) u w') := fun u bu => room_clock (h.below bu) hN hN1 h64 hh hfull L' h' none hcl
  clear h cR hcl hno h64 hN hfull hN1 hh
  go_enter Tryz.func60, Tryz.ntmps60
  go_wp2_with fail
  refine Calls.mono cM ?_
  rintro r w' ⟨rfl, rfl⟩
  clear cM
  go_wp2_with fail
  refine Calls.mono cF ?_
  rintro r wu1 ⟨rfl, b1⟩
  have HB1 : Hid (Below w.heap.size w wu1) := b1
  have d1 : wu1.cell? ⟨c, 1, none⟩ = some (.pointer (some ⟨v, 0, none⟩)) := (HC.out.below b1).box.cell 1
  have cR := HR.out wu1 b1
  clear cF b1
  go_wp2_with fail
  refine Calls.mono cR ?_
  rintro r wu2 ⟨g1, k1, rfl, hg1, r1, b2⟩
  have HB2 : Hid (Below w.heap.size w wu2) := HB1.out.trans (b2.mono HB1.out.size)
  have cM := HM.out wu2 HB2.out
  clear cR r1 b2 hg1 d1
  go_wp2_with fail
  refine Calls.mono cM ?_
  rintro r wu3 ⟨rfl, hC3, u3⟩
  have HC3 : Hid (CD wu3 c v sg h' L') := hC3
  have HU3 : Hid (Upd (fun i => i = sg ∨ i = c) w wu3) := (Dk.Upd.of_below HB2.out).trans u3 (fun i q => .inl q)
  clear cM hC3 u3
  go_wp2_with fail
  exact bodyPost_ret (v := .tuple #[.slice none 0 0, .int .i64 130]) (by simp [results, Tryz.results60, go_sem]) rfl ⟨rfl, HC3.out, HU3.out⟩
end Go.Proofs.YtnldkpckojhbhaaGreat.C

/-
  What Held, Dirty and Pinned ask of a slot.
-/
namespace Go.Proofs.YtnldkpckojhbhaaGreat.C
open Go.RowKit

set_option maxRecDepth 100000 in
theorem heldF_at (s : Sl) (w : World) : Calls Tryz.prog 127 #[.agg #[.int .i64 s.b, s.data, .int .i64 s.pins, .bool s.dirty, .bool s.mark]] w fun e w' => e = .returned (.bool true) ∧ Below w.heap.size w w' := by
  have B := (Below.refl w.heap.size w).alloc (Nat.le_refl _) (.cells #[.int .i64 s.b, s.data, .int .i64 s.pins, .bool s.dirty, .bool s.mark] 175)
  go_enter Tryz.func127, Tryz.ntmps127
  go_wp2_with fail
  go_ret
  exact ⟨rfl, B⟩
set_option maxRecDepth 100000 in
theorem dirtyF_at (s : Sl) (w : World) : Calls Tryz.prog 126 #[.agg #[.int .i64 s.b, s.data, .int .i64 s.pins, .bool s.dirty, .bool s.mark]] w fun e w' => e = .returned (.bool s.dirty) ∧ Below w.heap.size w w' := by
  have B := (Below.refl w.heap.size w).alloc (Nat.le_refl _) (.cells #[.int .i64 s.b, s.data, .int .i64 s.pins, .bool s.dirty, .bool s.mark] 175)
  go_enter Tryz.func126, Tryz.ntmps126
  go_wp2_with fail
  go_ret
  exact ⟨rfl, B⟩
set_option maxRecDepth 100000 in
theorem pinnedF_at (s : Sl) (w : World) : Calls Tryz.prog 125 #[.agg #[.int .i64 s.b, s.data, .int .i64 s.pins, .bool s.dirty, .bool s.mark]] w fun e w' => e = .returned (.bool (decide (0 < s.pins))) ∧ Below w.heap.size w w' := by
  have B := (Below.refl w.heap.size w).alloc (Nat.le_refl _) (.cells #[.int .i64 s.b, s.data, .int .i64 s.pins, .bool s.dirty, .bool s.mark] 175)
  go_enter Tryz.func125, Tryz.ntmps125
  go_wp2_with fail
  go_ret
  exact ⟨rfl, B⟩
end Go.Proofs.YtnldkpckojhbhaaGreat.C

/-
  gather: the blocks that are held and of which it is said, rising; Held, Dirty, Pinned.
-/
namespace Go.Proofs.YtnldkpckojhbhaaGreat.C
open Go.RowKit
open Go.Proofs.YtnldkpckojhbhaaGreat.Dk (Box RowB)

theorem owns_bel {w w' : World} {B e z n : Nat} {v : Value} {xs : List Value} (h : w.ownsRow B e z v n xs) (hb : Below w.heap.size w w') : w'.ownsRow B e z v n xs := J.owns_kept h (fun k hk => hb.block k (h.lt k hk).2)
def zcs (l : List Int) : List Value := l.map (Value.int .i64)
def gat (p : Sl → Bool) (L : List Sl) : List Int := (L.filter fun s => s.row.isSome && p s).map (·.b)
def srt (l : List Int) : List Int := l.mergeSort fun x y => decide (x ≤ y)
theorem gat_le (p : Sl → Bool) (L : List Sl) : (gat p L).length ≤ L.length := by unfold gat; rw [List.length_map]; exact List.length_filter_le _ _
theorem gat_yes (p : Sl → Bool) (L : List Sl) (k : Nat) (h : k < L.length) (hy : (L[k].row.isSome && p L[k]) = true) : gat p (L.take (k + 1)) = gat p (L.take k) ++ [L[k].b] := by
  unfold gat
  rw [List.take_succ_eq_append_getElem h, List.filter_append]
  simp [hy]
theorem gat_no (p : Sl → Bool) (L : List Sl) (k : Nat) (h : k < L.length) (hn : (L[k].row.isSome && p L[k]) = false) : gat p (L.take (k + 1)) = gat p (L.take k) := by
  unfold gat
  rw [List.take_succ_eq_append_getElem h, List.filter_append]
  simp [hn]
theorem infoI : (Tryz.prog.info? 3).map (fun i => (i.zero, i.size, i.bytes)) = some (some (.int .i64 0), 1, 8) := by kernel_rfl
theorem one_cell {w : World} {G : Nat} {v : Value} {t : TypeId} (h : Box w G #[v] t) : ∀ (j : Nat) (u : Value), [v][j]? = some u → w.cell? ((⟨G, 0, none⟩ : Addr).add j) = some u := by
  intro j u hj
  match j, hj with
  | 0, hj => simp at hj; subst hj; rw [Addr.add_lit]; exact h.cell 0
theorem sort_own {w : World} {B : Nat} {v : Value} (l : List Int) (h : w.ownsRow B 3 1 v l.length (zcs l)) (hl : l.length < 100000) :
    Calls Tryz.prog 180 #[v] w fun e w' => e = .returned (.tuple #[]) ∧ w'.ownsRow B 3 1 v (srt l).length (zcs (srt l)) ∧ Below B w w' := by
  have hls : (srt l).length = l.length := List.length_mergeSort l
  rcases h.2 with ⟨rfl, h0⟩ | ⟨g, cap, cur, rfl, hb, hg, hn, hm, hs, ht⟩
  · have hl0 : l = [] := List.length_eq_zero_iff.1 (by omega)
    subst hl0
    refine (AnyM.slices_Sort_int_none H.sortA none 0 w).mono ?_
    rintro e w' ⟨rfl, rfl⟩
    exact ⟨rfl, by simpa [srt] using h, Below.refl _ _⟩
  · rw [Nat.mul_one] at ht
    have hH := holds_of_blockI (w := w) (g := g) (ss := l) hg ht
    have hlt : g < w.heap.size := (Array.getElem?_eq_some_iff.1 hg).1
    refine (AnyM.slices_Sort_int H.sortA g 0 cap l w hH hlt (by omega)).mono ?_
    rintro e w' ⟨rfl, n, os, rfl⟩
    refine ⟨rfl, ?_, ?_⟩
    · rw [hls]
      exact ownsRow_sortedI hls hb hg hn hm hs
    · have gr := grownBy_sortedI (w := w) (g := g) (n := n) (os := os) (srt l).toArray
      exact ⟨gr.os, gr.tape, gr.output, gr.size, fun k hk => gr.block k (by omega) (by simp; omega)⟩
set_option maxHeartbeats 2000000 in
set_option maxRecDepth 100000 in
theorem gather_at {w : World} {c v sg : Nat} {hand : Int} {L : List Sl} (h : CD w c v sg hand L) (h64 : L.length ≤ 64) (f : Nat) (p : Sl → Bool)
    (hf : ∀ (s : Sl) (u : World), Calls Tryz.prog f #[.agg #[.int .i64 s.b, s.data, .int .i64 s.pins, .bool s.dirty, .bool s.mark]] u fun e w' => e = .returned (.bool (p s)) ∧ Below u.heap.size u w')
    (hin : ∀ args u, (callFunc f args).run Tryz.prog u = .ok (.enter f args) u) :
    Calls Tryz.prog 124 #[.pointer (some ⟨c, 0, none⟩), .func (.func f) #[] #[]] w fun r w' => ∃ v', r = .returned v' ∧ w'.ownsRow w.heap.size 3 1 v' (srt (gat p L)).length (zcs (srt (gat p L))) ∧ Below w.heap.size w w' := by
  obtain ⟨i0, hi0, hz0, hz1, hz2⟩ := info_parts infoI
  have HC : Hid (CD w c v sg hand L) := h
  have cM := isMade_at h
  obtain ⟨N, hN⟩ : ∃ N, N = L.length := ⟨_, rfl⟩
  have HN : Hid (N = L.length) := hN
  have k2 : w.cell? ⟨c, 2, none⟩ = some (.slice (some ⟨sg, 0, none⟩) N N) := by rw [hN]; exact h.box.cell 2
  have Hf : Hid (∀ (s : Sl) (u : World), Calls Tryz.prog f #[.agg #[.int .i64 s.b, s.data, .int .i64 s.pins, .bool s.dirty, .bool s.mark]] u fun e w' => e = .returned (.bool (p s)) ∧ Below u.heap.size u w') := hf
  rw [← hN] at h64
  clear h hN hf
  go_enter Tryz.func124, Tryz.ntmps124
  go_wp2_with fail
  refine Calls.mono cM ?_
  rintro e wx ⟨rfl, hwx⟩
  subst hwx
  clear cM
  go_wp2_with fail
  clear k2
  go_loopw [5, 16] (fun v i u => ∃ k : Nat, k ≤ N ∧ i = .int .i64 (k : Int) ∧ u.ownsRow w.heap.size 3 1 v (gat p (L.take k)).length (zcs (gat p (L.take k))) ∧ Below w.heap.size w u) (fun _ i _ => N - (intOf i).toNat)
  case atStart => exact ⟨0, Nat.zero_le _, rfl, World.ownsRow_nil _ _ _ _, Below.refl _ _⟩
  case round =>
    obtain ⟨k, hk, rfl, hown, hbel⟩ := hrel
    obtain ⟨wa, hwa⟩ : ∃ wa, wa = wr := ⟨_, rfl⟩
    subst hwa
    have HO : Hid (wa.ownsRow w.heap.size 3 1 _ (gat p (L.take k)).length (zcs (gat p (L.take k)))) := hown
    have HB : Hid (Below w.heap.size w wa) := hbel
    have hgl := gat_le p (L.take k)
    have htl : (L.take k).length ≤ k := List.length_take_le _ _
    by_cases hlt : k < N
    · have hkL : k < L.length := by rw [← HN.out]; exact hlt
      have hki : (k : Int) < (N : Int) := by omega
      have hC := HC.out.below hbel
      have k2 : wa.cell? ⟨c, 2, none⟩ = some (.slice (some ⟨sg, 0, none⟩) N N) := by rw [HN.out]; exact hC.box.cell 2
      obtain ⟨c0, c1, c2, c3, c4⟩ := hC.slot k hkL
      have HY : Hid ((L[k].row.isSome && p L[k]) = true → gat p (L.take (k + 1)) = gat p (L.take k) ++ [L[k].b]) := gat_yes p L k hkL
      have HNo : Hid ((L[k].row.isSome && p L[k]) = false → gat p (L.take (k + 1)) = gat p (L.take k)) := gat_no p L k hkL
      generalize (L[k]'hkL) = sl at c0 c1 c2 c3 c4 HY HNo
      obtain ⟨da, dn, dc, hdv⟩ : ∃ a n c, sl.data = .slice a n c := by
        unfold Sl.data
        cases sl.row with
        | none => exact ⟨_, _, _, rfl⟩
        | some q => exact ⟨_, _, _, rfl⟩
      have cf := Hf.out sl
      have cE0 := isEmpty_at sl
      rw [hdv] at c1 cf cE0
      clear hdv
      have bx := Box.new wa #[.int .i64 sl.b, .slice da dn dc, .int .i64 sl.pins, .bool sl.dirty, .bool sl.mark] 175
      have bb := (Below.refl wa.heap.size wa).alloc (Nat.le_refl _) (.cells #[.int .i64 sl.b, .slice da dn dc, .int .i64 sl.pins, .bool sl.dirty, .bool sl.mark] 175)
      obtain ⟨ob, hob⟩ : ∃ ob, ob = wa.heap.size := ⟨_, rfl⟩
      rw [← hob] at bx
      have Hob : Hid (ob = wa.heap.size) := hob
      obtain ⟨wb, hwb⟩ : ∃ wb, wb = wa.alloc (.cells #[.int .i64 sl.b, .slice da dn dc, .int .i64 sl.pins, .bool sl.dirty, .bool sl.mark] 175) := ⟨_, rfl⟩
      have Hwb : Hid (wb = wa.alloc (.cells #[.int .i64 sl.b, .slice da dn dc, .int .i64 sl.pins, .bool sl.dirty, .bool sl.mark] 175)) := hwb
      rw [← hwb] at bx bb
      have cE := cE0 wb
      have HBx : Hid (Box wb ob #[.int .i64 sl.b, .slice da dn dc, .int .i64 sl.pins, .bool sl.dirty, .bool sl.mark] 175) := bx
      have HBb : Hid (Below wa.heap.size wa wb) := bb
      have d0 := bx.cell 0
      have d1 := bx.cell 1
      have d2 := bx.cell 2
      have d3 := bx.cell 3
      have d4 := bx.cell 4
      simp only [List.getElem?_toArray, List.getElem?_cons_zero, List.getElem?_cons_succ] at d0 d1 d2 d3 d4
      have Hcf : Hid (∀ u : World, Calls Tryz.prog f #[.agg #[.int .i64 sl.b, .slice da dn dc, .int .i64 sl.pins, .bool sl.dirty, .bool sl.mark]] u fun e w' => e = .returned (.bool (p sl)) ∧ Below u.heap.size u w') := cf
      clear hC bx bb hob hwb hown hbel htl cf cE0
      go_upto_region 7 with fail
      rw [← Hwb.out, ← Hob.out]
      clear c0 c1 c2 c3 c4 k2 Hwb
      go_wp2_with fail
      refine Calls.mono cE ?_
      rintro e wc ⟨rfl, b2⟩
      have HBc : Hid (Below wa.heap.size wa wc) := HBb.out.trans (b2.mono HBb.out.size)
      have HXc : Hid (Box wc ob #[.int .i64 sl.b, .slice da dn dc, .int .i64 sl.pins, .bool sl.dirty, .bool sl.mark] 175) := HBx.out.below b2
      clear cE b2 d0 d1 d2 d3 d4
      cases hr : sl.row with
      | none =>
        have HG : Hid (gat p (L.take (k + 1)) = gat p (L.take k)) := HNo.out (by rw [hr]; rfl)
        have HOw : Hid (wc.ownsRow w.heap.size 3 1 _ (gat p (L.take k)).length (zcs (gat p (L.take k)))) := owns_bel HO.out HBc.out
        have HBw : Hid (Below w.heap.size w wc) := HB.out.trans (HBc.out.mono HB.out.size)
        clear HY HNo hr
        go_wp2_with fail
        go_roundw
        case rel => exact ⟨k + 1, by omega, by go_num, by rw [HG.out]; exact HOw.out, HBw.out⟩
        case measure => simp [intOf]; omega
      | some q =>
        have cf := Hcf.out wc
        have d0 := HXc.out.cell 0
        have d1 := HXc.out.cell 1
        have d2 := HXc.out.cell 2
        have d3 := HXc.out.cell 3
        have d4 := HXc.out.cell 4
        simp only [List.getElem?_toArray, List.getElem?_cons_zero, List.getElem?_cons_succ] at d0 d1 d2 d3 d4
        have hS : (sl.row.isSome) = true := by rw [hr]; rfl
        have HSm : Hid (sl.row.isSome = true) := hS
        clear hr hS
        go_wp2_with fail
        refine Calls.mono cf ?_
        rintro e wd ⟨rfl, b3⟩
        have HBd : Hid (Below wa.heap.size wa wd) := HBc.out.trans (b3.mono HBc.out.size)
        have x0 : wd.cell? ⟨ob, 0, none⟩ = some (.int .i64 sl.b) := (HXc.out.below b3).cell 0
        have HOd : Hid (wd.ownsRow w.heap.size 3 1 _ (gat p (L.take k)).length (zcs (gat p (L.take k)))) := owns_bel HO.out HBd.out
        have HBw : Hid (Below w.heap.size w wd) := HB.out.trans (HBd.out.mono HB.out.size)
        clear cf b3 d0 d1 d2 d3 d4
        cases hp : p sl with
        | true =>
          have HG : Hid (gat p (L.take (k + 1)) = gat p (L.take k) ++ [sl.b]) := HY.out (by rw [HSm.out, hp]; rfl)
          obtain ⟨z, hz⟩ : ∃ z, z = sl.b := ⟨_, rfl⟩
          rw [← hz] at x0 HG
          have hx1 := Box.new wd #[.int .i64 z] 3
          have own1 := HOd.out.alloc (.cells #[.int .i64 z] 3)
          obtain ⟨ys, hys⟩ : ∃ ys, ys = zcs (gat p (L.take k)) := ⟨_, rfl⟩
          rw [← hys] at own1
          have Hys : Hid (ys = zcs (gat p (L.take k))) := hys
          obtain ⟨m, hm⟩ : ∃ m, m = (gat p (L.take k)).length := ⟨_, rfl⟩
          rw [← hm] at own1
          have Hm : Hid (m = (gat p (L.take k)).length) := hm
          have hmk : m ≤ N := by
            have h1 : (L.take k).length ≤ k := List.length_take_le _ _
            omega
          have hz3 : w.heap.size ≤ wd.heap.size := HBw.out.size
          clear hys hm hz hp HY HNo hgl
          go_wp2_with (at_builtin; refine wpList_append_own _ rfl _ _ 31 rfl w.heap.size 3 i0 (.int .i64 0) 1 8 Tryz.underlying31 hi0 hz0 hz1 hz2 rfl (by decide) _ m _ rfl own1 ⟨wd.heap.size, 0, none⟩ 1 1 [.int .i64 z] rfl rfl (one_cell hx1) ?c2 ?c3 ?c4 ?c5 ?_)
          case c2 => intro u hu; simp at hu; subst hu; rfl
          case c3 => unfold maxLen; omega
          case c4 => omega
          case c5 => simp; omega
          intro v' w4 hown4 hgrow _
          have B4 : Below w.heap.size w w4 := (HBw.out.alloc hz3 _).grown hgrow (by simp; omega) (fun k hk => (HOd.out.lt k hk).1)
          have HO4 : Hid (w4.ownsRow w.heap.size 3 1 v' (gat p (L.take (k + 1))).length (zcs (gat p (L.take (k + 1))))) := by
            rw [HG.out, List.length_append, zcs, List.map_append]
            rw [Hys.out, Hm.out] at hown4
            exact hown4
          have HB4 : Hid (Below w.heap.size w w4) := B4
          clear B4 hown4 hgrow own1 hx1 x0
          go_wp2
          go_roundw
          case rel => exact ⟨k + 1, by omega, by go_num, HO4.out, HB4.out⟩
          case measure => simp [intOf]; omega
        | false =>
          have HG : Hid (gat p (L.take (k + 1)) = gat p (L.take k)) := HNo.out (by rw [HSm.out, hp]; rfl)
          clear hp HY HNo x0
          go_wp2_with fail
          go_roundw
          case rel => exact ⟨k + 1, by omega, by go_num, by rw [HG.out]; exact HOd.out, HBw.out⟩
          case measure => simp [intOf]; omega
    · have hkN : k = N := by omega
      have HT : Hid (L.take k = L) := by
        show L.take k = L
        rw [hkN, HN.out]; exact List.take_length
      subst hkN
      rw [HT.out] at HO hown
      have cS := sort_own (gat p L) hown (by have := gat_le p L; have := HN.out; omega)
      clear hown hbel hgl htl
      go_wp2_with fail
      refine Calls.mono cS ?_
      rintro e wb ⟨rfl, oS, bS⟩
      have HF : Hid (wb.ownsRow w.heap.size 3 1 _ (srt (gat p L)).length (zcs (srt (gat p L)))) := oS
      have HB2 : Hid (Below w.heap.size w wb) := HB.out.trans bS
      clear cS oS bS
      go_wp2_with fail
      go_ret
      exact ⟨_, rfl, HF.out, HB2.out⟩
theorem heldAll_at {w : World} {c v sg : Nat} {hand : Int} {L : List Sl} (h : CD w c v sg hand L) (h64 : L.length ≤ 64) :
    Calls Tryz.prog 70 #[.pointer (some ⟨c, 0, none⟩)] w fun r w' => ∃ v', r = .returned v' ∧ w'.ownsRow w.heap.size 3 1 v' (srt (gat (fun _ => true) L)).length (zcs (srt (gat (fun _ => true) L))) ∧ Below w.heap.size w w' := by
  have cG := gather_at h h64 127 (fun _ => true) heldF_at (enters_of Tryz.func127 (by kernel_rfl) rfl)
  go_enter Tryz.func70, Tryz.ntmps70
  go_wp2_with fail
  refine Calls.mono cG ?_
  rintro e w' ⟨v', rfl, o, b⟩
  have HF : Hid (w'.ownsRow w.heap.size 3 1 v' (srt (gat (fun _ => true) L)).length (zcs (srt (gat (fun _ => true) L))) ∧ Below w.heap.size w w') := ⟨o, b⟩
  clear cG o b
  go_wp2_with fail
  go_ret
  exact ⟨_, rfl, HF.out⟩
theorem dirtyAll_at {w : World} {c v sg : Nat} {hand : Int} {L : List Sl} (h : CD w c v sg hand L) (h64 : L.length ≤ 64) :
    Calls Tryz.prog 69 #[.pointer (some ⟨c, 0, none⟩)] w fun r w' => ∃ v', r = .returned v' ∧ w'.ownsRow w.heap.size 3 1 v' (srt (gat (fun s => s.dirty) L)).length (zcs (srt (gat (fun s => s.dirty) L))) ∧ Below w.heap.size w w' := by
  have cG := gather_at h h64 126 (fun s => s.dirty) dirtyF_at (enters_of Tryz.func126 (by kernel_rfl) rfl)
  go_enter Tryz.func69, Tryz.ntmps69
  go_wp2_with fail
  refine Calls.mono cG ?_
  rintro e w' ⟨v', rfl, o, b⟩
  have HF : Hid (w'.ownsRow w.heap.size 3 1 v' (srt (gat (fun s => s.dirty) L)).length (zcs (srt (gat (fun s => s.dirty) L))) ∧ Below w.heap.size w w') := ⟨o, b⟩
  clear cG o b
  go_wp2_with fail
  go_ret
  exact ⟨_, rfl, HF.out⟩
theorem pinnedAll_at {w : World} {c v sg : Nat} {hand : Int} {L : List Sl} (h : CD w c v sg hand L) (h64 : L.length ≤ 64) :
    Calls Tryz.prog 68 #[.pointer (some ⟨c, 0, none⟩)] w fun r w' => ∃ v', r = .returned v' ∧ w'.ownsRow w.heap.size 3 1 v' (srt (gat (fun s => decide (0 < s.pins)) L)).length (zcs (srt (gat (fun s => decide (0 < s.pins)) L))) ∧ Below w.heap.size w w' := by
  have cG := gather_at h h64 125 (fun s => decide (0 < s.pins)) pinnedF_at (enters_of Tryz.func125 (by kernel_rfl) rfl)
  go_enter Tryz.func68, Tryz.ntmps68
  go_wp2_with fail
  refine Calls.mono cG ?_
  rintro e w' ⟨v', rfl, o, b⟩
  have HF : Hid (w'.ownsRow w.heap.size 3 1 v' (srt (gat (fun s => decide (0 < s.pins)) L)).length (zcs (srt (gat (fun s => decide (0 < s.pins)) L))) ∧ Below w.heap.size w w') := ⟨o, b⟩
  clear cG o b
  go_wp2_with fail
  go_ret
  exact ⟨_, rfl, HF.out⟩
end Go.Proofs.YtnldkpckojhbhaaGreat.C

/-
  A cache over its volume; load of cache's law.
-/
namespace Go.Proofs.YtnldkpckojhbhaaGreat.C
open Go.RowKit
open Go.Proofs.YtnldkpckojhbhaaGreat.Dk (Box DS RowB Upd)
open Go.Proofs.YtnldkpckojhbhaaGreat.V (VW VWA vC vcells Mq read_disk)

structure CS (w : World) (c v sg : Nat) (hand : Int) (L : List Sl) (dg j gm : Nat) (S : J.JS) (xs : List Int) (D : DS) (cn : Nat) (dat : Int → Option (List UInt8)) (F : Nat → Prop) : Prop where
  cd : CD w c v sg hand L
  vw : VWA (fun i => i = sg ∨ i = c) w v dg j gm 2 false S xs D cn dat F
  sep : ∀ i, i = sg ∨ i = c → ¬ F i ∧ i ≠ v ∧ i ≠ gm
  row : ∀ s ∈ L, ∀ g cc, s.row = some (g, cc) → ¬ F g ∧ g ≠ gm
section
variable {w w' : World} {c v sg dg j gm cn : Nat} {hand hand' : Int} {L L' : List Sl} {S : J.JS} {xs : List Int} {D : DS} {dat : Int → Option (List UInt8)} {F : Nat → Prop}
theorem CS.below (h : CS w c v sg hand L dg j gm S xs D cn dat F) (b : Below w.heap.size w w') : CS w' c v sg hand L dg j gm S xs D cn dat F := ⟨h.cd.below b, h.vw.below b, h.sep, h.row⟩
theorem CS.flt (h : CS w c v sg hand L dg j gm S xs D cn dat F) : ∀ i, F i → i < w.heap.size := by
  obtain ⟨m, h2, _⟩ := h.vw
  exact h2.jd.flt
theorem CS.upd (h : CS w c v sg hand L dg j gm S xs D cn dat F) (hc : CD w' c v sg hand' L') (hu : Upd (fun i => i = sg ∨ i = c) w w') (hr : ∀ s ∈ L', ∀ g cc, s.row = some (g, cc) → (∃ s0 ∈ L, s0.row = some (g, cc)) ∨ w.heap.size ≤ g) : CS w' c v sg hand' L' dg j gm S xs D cn dat F := by
  refine ⟨hc, h.vw.kept (fun i hi hA => hu.block i hi hA) h.sep hu.size, h.sep, fun s hs g cc e => ?_⟩
  rcases hr s hs g cc e with ⟨s0, h0, e0⟩ | h1
  · exact h.row s0 h0 g cc e0
  · exact ⟨fun hf => by have := h.flt g hf; omega, by have := h.vw.vlt.2; omega⟩
theorem upd_sg (hu : Upd (fun i => i = sg) w w') : Upd (fun i => i = sg ∨ i = c) w w' := ⟨hu.os, hu.tape, hu.output, hu.size, fun k hk hn => hu.block k hk (fun e => hn (.inl e))⟩
end
end Go.Proofs.YtnldkpckojhbhaaGreat.C

/-
  load of cache's law: a block is loaded, and what is held then so.
-/
namespace Go.Proofs.YtnldkpckojhbhaaGreat.C
open Go.RowKit
open Go.Proofs.YtnldkpckojhbhaaGreat.Dk (Box DS RowB Upd)
theorem owns_at {w : World} {B n : Nat} {v : Value} {l : List Int} (h : w.ownsRow B 3 1 v n (zcs l)) (h0 : 0 < n) : ∃ g cap, v = .slice (some ⟨g, 0, none⟩) n cap ∧ ∀ j (hj : j < l.length), w.cell? ⟨g, 0 + j, none⟩ = some (.int .i64 l[j]) := by
  have hl : l.length = n := by simpa [zcs] using h.1
  rcases h.2 with ⟨rfl, rfl⟩ | ⟨g, cap, cur, rfl, hb, hg, _, _, _, ht⟩
  · omega
  · refine ⟨g, cap, rfl, fun j hj => ?_⟩
    rw [Nat.zero_add, Dk.Box.cell hg j]
    have h1 : (cur.toList.take (n * 1))[j]? = (zcs l)[j]? := by rw [ht]
    rw [List.getElem?_take, if_pos (by omega)] at h1
    rw [← Array.getElem?_toList, h1]
    simp [zcs, hj]
set_option maxRecDepth 100000 in
theorem lawLoad_at {w : World} {c v sg hb k : Nat} {n : Int} (held : List Int) (hk : held.length = k) (hk0 : 0 < k) (hk9 : k ≤ 64) (P : World → Prop)
    (cL : Calls Tryz.prog 60 #[.pointer (some ⟨c, 0, none⟩), .int .i64 n] w fun r w' => ∃ g' c', r = .returned (.tuple #[.slice (some ⟨g', 0, none⟩) 4096 c', .int .i64 0]) ∧ P w')
    (hP : ∀ u, P u → (∃ hand L, CD u c v sg hand L ∧ L.length ≤ 64 ∧ srt (gat (fun _ => true) L) = held) ∧ ∀ j (hj : j < held.length), u.cell? ⟨hb, 0 + j, none⟩ = some (.int .i64 held[j]))
    (hB : ∀ u u', P u → Below u.heap.size u u' → P u') :
    Calls Tryz.prog 65 #[.pointer (some ⟨c, 0, none⟩), .int .i64 n, .slice (some ⟨hb, 0, none⟩) k k] w fun r w' => r = .returned (.bool true) ∧ P w' := by
  have HP : Hid (∀ u, P u → (∃ hand L, CD u c v sg hand L ∧ L.length ≤ 64 ∧ srt (gat (fun _ => true) L) = held) ∧ ∀ j (hj : j < held.length), u.cell? ⟨hb, 0 + j, none⟩ = some (.int .i64 held[j])) := hP
  have HB : Hid (∀ u u', P u → Below u.heap.size u u' → P u') := hB
  have Hk : Hid (held.length = k ∧ 0 < k ∧ k ≤ 64) := ⟨hk, hk0, hk9⟩
  clear hP hB hk hk0 hk9
  go_enter Tryz.func65, Tryz.ntmps65
  go_wp2_with fail
  refine Calls.mono cL ?_
  rintro e w1 ⟨g', c', rfl, hp1⟩
  obtain ⟨⟨hand, L, hC, h64, hs⟩, hc⟩ := HP.out w1 hp1
  have cH := heldAll_at hC h64
  rw [hs, Hk.out.1] at cH
  have HP1 : Hid (P w1) := hp1
  have HC1 : Hid (∀ j (hj : j < held.length), w1.cell? ⟨hb, 0 + j, none⟩ = some (.int .i64 held[j])) := hc
  clear cL hp1 hC h64 hs hc
  go_wp2_with fail
  refine Calls.mono cH ?_
  rintro e w2 ⟨v2, rfl, o2, b2⟩
  have HP2 : Hid (P w2) := HB.out w1 w2 HP1.out b2
  obtain ⟨g2, cap2, rfl, hc2⟩ := owns_at o2 Hk.out.2.1
  have hc3 : ∀ j (hj : j < held.length), w2.cell? ⟨hb, 0 + j, none⟩ = some (.int .i64 held[j]) := fun j hj => by
    rw [b2.cell (p := ⟨hb, 0 + j, none⟩) (block_lt_of_cell (HC1.out j hj))]; exact HC1.out j hj
  have cS := Dk.sameInts_self k cap2 k g2 0 hb 0 held w2 Hk.out.1 (by have := Hk.out.2.2; omega) hc2 hc3
  clear cH o2 b2 hc2 hc3
  go_wp2_with fail
  refine Calls.mono cS ?_
  rintro e w3 ⟨rfl, b3⟩
  have HP3 : Hid (P w3) := HB.out w2 w3 HP2.out b3
  clear cS b3
  go_wp2_with fail
  go_ret
  exact ⟨rfl, HP3.out⟩
end Go.Proofs.YtnldkpckojhbhaaGreat.C

/-
  images: what these blocks are.
-/
namespace Go.Proofs.YtnldkpckojhbhaaGreat.C
open Go.RowKit
open Go.Proofs.YtnldkpckojhbhaaGreat.Dk (Box DS RowB Upd)
def dOf (L : List Sl) (b : Int) : Value := match L.findIdx? (isAt b) with
  | some i => (L.getD i empty).data
  | none => .slice none 0 0
def imV (L : List Sl) (bs : List Int) : List Value := bs.flatMap fun b => [.int .i64 b, dOf L b]
theorem imV_snoc (L : List Sl) (bs : List Int) (k : Nat) (h : k < bs.length) : imV L (bs.take (k + 1)) = imV L (bs.take k) ++ [.int .i64 bs[k], dOf L bs[k]] := by
  unfold imV
  rw [List.take_succ_eq_append_getElem h, List.flatMap_append]
  simp
theorem dOf_slice (L : List Sl) (b : Int) : ∃ a n c, dOf L b = .slice a n c := by
  unfold dOf
  split
  · unfold Sl.data
    split
    · exact ⟨_, _, _, rfl⟩
    · exact ⟨_, _, _, rfl⟩
  · exact ⟨_, _, _, rfl⟩
set_option maxRecDepth 100000 in
set_option maxHeartbeats 2000000 in
theorem images_at {w : World} {c v sg gb cb n : Nat} {hand : Int} {L : List Sl} (h : CD w c v sg hand L) (h64 : L.length ≤ 64) (bs : List Int) (hl : bs.length = n) (hn : n ≤ 64) (hbs : ∀ b ∈ bs, ∃ i, L.findIdx? (isAt b) = some i)
    (hc : ∀ j (hj : j < bs.length), w.cell? ⟨gb, 0 + j, none⟩ = some (.int .i64 bs[j])) :
    Calls Tryz.prog 122 #[.pointer (some ⟨c, 0, none⟩), .slice (some ⟨gb, 0, none⟩) n cb] w fun r w' => ∃ v', r = .returned v' ∧ w'.ownsRow w.heap.size 89 2 v' n (imV L bs) ∧ Below w.heap.size w w' := by
  obtain ⟨i0, hi, hz0, hz1, hz2⟩ := info_parts Rc.info38
  have HC : Hid (CD w c v sg hand L) := h
  have HL : Hid (L.length ≤ 64) := h64
  have Hl : Hid (bs.length = n) := hl
  have HBS : Hid (∀ b ∈ bs, ∃ i, L.findIdx? (isAt b) = some i) := hbs
  have HR : Hid (∀ u, Below w.heap.size w u → ∀ j (hj : j < bs.length), u.cell? ⟨gb, 0 + j, none⟩ = some (.int .i64 bs[j])) := fun u hu j hj => by
    rw [hu.cell (p := ⟨gb, 0 + j, none⟩) (block_lt_of_cell (hc j hj))]; exact hc j hj
  clear h h64 hl hbs hc
  go_enter Tryz.func122, Tryz.ntmps122
  go_wp2_with fail
  go_loopw [5, 10] (fun v i u => ∃ k : Nat, k ≤ n ∧ i = .int .i64 (k : Int) ∧ u.ownsRow w.heap.size 89 2 v k (imV L (bs.take k)) ∧ Below w.heap.size w u) (fun _ i _ => n - (intOf i).toNat)
  case atStart => exact ⟨0, Nat.zero_le _, rfl, World.ownsRow_nil _ _ _ _, Below.refl _ _⟩
  case round =>
    obtain ⟨k, hk, rfl, hown, hbel⟩ := hrel
    obtain ⟨wa, hwa⟩ : ∃ wa, wa = wr := ⟨_, rfl⟩
    subst hwa
    have HO : Hid (wa.ownsRow w.heap.size 89 2 _ k (imV L (bs.take k))) := hown
    have HB : Hid (Below w.heap.size w wa) := hbel
    by_cases hlt : k < n
    · have hkb : k < bs.length := by rw [Hl.out]; exact hlt
      have hki : (k : Int) < (n : Int) := by omega
      have hC := HC.out.below hbel
      have x0 := HR.out wa hbel k hkb
      rw [Nat.zero_add] at x0
      obtain ⟨i, hi'⟩ := HBS.out bs[k] (List.getElem_mem hkb)
      have cF := find_at hC HL.out bs[k]
      unfold hit at cF
      rw [hi'] at cF
      have HS : Hid (imV L (bs.take (k + 1)) = imV L (bs.take k) ++ [.int .i64 bs[k], dOf L bs[k]]) := imV_snoc L bs k hkb
      have hiL : i < L.length := (List.findIdx?_eq_some_iff_getElem.1 hi').1
      have HD : Hid (∀ u, Below wa.heap.size wa u → u.cell? ⟨sg, i * 5 + 1, none⟩ = some (dOf L bs[k])) := fun u hu => by
        have h1 := ((hC.below hu).slot i hiL).c1
        rw [h1]
        unfold dOf
        rw [hi']
        simp [List.getD, hiL]
      obtain ⟨da, dn, dc, hd⟩ := dOf_slice L bs[k]
      rw [hd] at HD HS
      generalize bs[k] = z at x0 cF HS
      simp only [Option.map_some] at cF
      clear hC hi' hd hown hbel
      go_wp2_with fail
      refine Calls.mono cF ?_
      rintro e wd ⟨rfl, b2⟩
      have x1 := HD.out wd b2
      have HOd : Hid (wd.ownsRow w.heap.size 89 2 _ k (imV L (bs.take k))) := owns_bel HO.out b2
      have HBw : Hid (Below w.heap.size w wd) := HB.out.trans (b2.mono HB.out.size)
      have own1 := HOd.out.alloc (.cells #[.int .i64 z, .slice da dn dc] 89)
      obtain ⟨ys, hys⟩ : ∃ ys, ys = imV L (bs.take k) := ⟨_, rfl⟩
      rw [← hys] at own1
      have Hys : Hid (ys = imV L (bs.take k)) := hys
      have hz3 : w.heap.size ≤ wd.heap.size := HBw.out.size
      clear cF b2 hys
      go_wp2_with (at_builtin; refine wpList_append_own _ rfl _ _ 29 rfl w.heap.size 89 i0 _ 2 32 Tryz.underlying29 hi hz0 hz1 hz2 rfl (by decide) _ k _ rfl own1 ⟨wd.heap.size, 0, none⟩ 1 1 [.int .i64 z, .slice da dn dc] rfl rfl ?c1 ?c2 ?c3 ?c4 ?c5 ?_)
      case c1 => exact World.news_of_block (cs := #[.int .i64 z, .slice da dn dc]) (t := 89) (fr := (0, 0)) (heap_alloc_new wd _)
      case c2 => intro u hu; simp at hu; rcases hu with rfl | rfl <;> rfl
      case c3 => unfold maxLen; omega
      case c4 => omega
      case c5 => simp; omega
      intro v' w4 hown4 hgrow _
      have B4 : Below w.heap.size w w4 := (HBw.out.alloc hz3 _).grown hgrow (by simp; omega) (fun k hk => (HOd.out.lt k hk).1)
      have HO4 : Hid (w4.ownsRow w.heap.size 89 2 v' (k + 1) (imV L (bs.take (k + 1)))) := by
        rw [HS.out]
        rw [Hys.out] at hown4
        exact hown4
      have HB4 : Hid (Below w.heap.size w w4) := B4
      clear B4 hown4 hgrow own1 x1
      go_wp2
      go_roundw
      case rel => exact ⟨k + 1, by omega, by go_num, HO4.out, HB4.out⟩
      case measure => simp [intOf]; omega
    · have hkn : k = n := by omega
      have HT : Hid (bs.take k = bs) := by
        show bs.take k = bs
        rw [hkn, ← Hl.out]; exact List.take_length
      subst hkn
      clear hown hbel
      go_wp2_with fail
      go_ret
      exact ⟨_, rfl, by rw [← HT.out]; exact HO.out, HB.out⟩
end Go.Proofs.YtnldkpckojhbhaaGreat.C

/-
  Commit of a cache with something to commit.
-/
namespace Go.Proofs.YtnldkpckojhbhaaGreat.C
open Go.RowKit
open Go.Proofs.YtnldkpckojhbhaaGreat.Dk (Box DS RowB Upd)
open Go.Proofs.YtnldkpckojhbhaaGreat.V (VW VWA vC vcells Mq MayG dats commit_ok)
open Go.Proofs.YtnldkpckojhbhaaGreat.Rc (Imgs ImgAt)
def xOf (L : List Sl) (b : Int) : List UInt8 := match L.findIdx? (isAt b) with
  | some i => (L.getD i empty).xs
  | none => []
def imL (L : List Sl) (bs : List Int) : List (Int × List UInt8) := bs.map fun b => (b, xOf L b)
theorem dOf_held {w : World} {c v sg : Nat} {hand : Int} {L : List Sl} (h : CD w c v sg hand L) {b : Int} {i : Nat} (hi : L.findIdx? (isAt b) = some i) : ∃ s ∈ L, ∃ g cc, s.row = some (g, cc) ∧ dOf L b = .slice (some ⟨g, 0, none⟩) 4096 cc ∧ RowB w g cc (xOf L b) ∧ (xOf L b).length = 4096 := by
  obtain ⟨hl, hat, _⟩ := List.findIdx?_eq_some_iff_getElem.1 hi
  unfold isAt at hat
  cases hr : L[i].row with
  | none => rw [hr] at hat; simp at hat
  | some q =>
    obtain ⟨g, cc⟩ := q
    have hm : L[i] ∈ L := List.getElem_mem hl
    have hrw := h.rows L[i] hm g cc hr
    refine ⟨L[i], hm, g, cc, hr, ?_, ?_⟩
    · unfold dOf
      rw [hi]
      simp [List.getD, hl, Sl.data, hr]
    · unfold xOf
      rw [hi]
      simpa [List.getD, hl] using hrw
theorem imV_at (L : List Sl) (bs : List Int) : ∀ (k : Nat) (h : k < bs.length), (imV L bs)[k * 2]? = some (.int .i64 bs[k]) ∧ (imV L bs)[k * 2 + 1]? = some (dOf L bs[k]) := by
  induction bs with
  | nil => intro k h; simp at h
  | cons b bs ih =>
    intro k h
    have e : imV L (b :: bs) = .int .i64 b :: dOf L b :: imV L bs := rfl
    cases k with
    | zero => simp [e]
    | succ k =>
      have := ih k (by simpa using h)
      rw [e, show (k + 1) * 2 = k * 2 + 1 + 1 by omega, show k * 2 + 1 + 1 + 1 = (k * 2 + 1) + 1 + 1 by omega]
      simpa only [List.getElem?_cons_succ, List.getElem_cons_succ] using this
theorem imgs_held {w u : World} {c v sg n : Nat} {hand : Int} {L : List Sl} {vi : Value} (h : CD u c v sg hand L) (bs : List Int) (hl : bs.length = n) (h0 : 0 < n) (hbs : ∀ b ∈ bs, ∃ i, L.findIdx? (isAt b) = some i) (ho : u.ownsRow w.heap.size 89 2 vi n (imV L bs)) :
    ∃ q cap, vi = .slice (some ⟨q, 0, none⟩) n cap ∧ w.heap.size ≤ q ∧ Imgs u (some ⟨q, 0, none⟩) (imL L bs) ∧ ∀ k (hk : k < (imL L bs).length) (b o : Nat) (x : Option Addr) (c : Nat), some (⟨q, 0, none⟩ : Addr) = some ⟨b, o, none⟩ → u.cell? ⟨b, o + k * 2 + 1, none⟩ = some (.slice x (imL L bs)[k].2.length c) → ∀ ad, x = some ad → ∃ s ∈ L, ∃ cc, s.row = some (ad.block, cc) := by
  obtain ⟨q, cap, rfl, hq, cell⟩ : ∃ q cap, vi = .slice (some ⟨q, 0, none⟩) n cap ∧ w.heap.size ≤ q ∧ ∀ j, j < n * 2 → u.cell? ⟨q, j, none⟩ = (imV L bs)[j]? := by
    rcases ho.2 with ⟨_, e⟩ | ⟨q, cap, cur, rfl, hb, hg, _, _, _, ht⟩
    · omega
    · refine ⟨q, cap, rfl, hb, fun j hj => ?_⟩
      rw [Dk.Box.cell hg j, ← Array.getElem?_toList, ← ht, List.getElem?_take, if_pos hj]
  refine ⟨q, cap, rfl, hq, fun _ => ⟨q, 0, rfl, fun k hk => ?_⟩, fun k hk b o x c' e hcell ad ex => ?_⟩
  · have hkb : k < bs.length := by simpa [imL] using hk
    obtain ⟨i, hi⟩ := hbs bs[k] (List.getElem_mem hkb)
    obtain ⟨s, hs, g, cc, hr, hd, hrow, hlen⟩ := dOf_held h hi
    obtain ⟨a1, a2⟩ := imV_at L bs k hkb
    have e1 : (imL L bs)[k] = (bs[k], xOf L bs[k]) := by simp [imL]
    rw [e1]
    refine ⟨?_, some ⟨g, 0, none⟩, cc, ?_, ?_, ?_, (fun e => by cases e), hrow.rd⟩
    · rw [Nat.zero_add, cell _ (by omega), a1]
    · rw [Nat.zero_add, cell _ (by omega), a2, hd]
      simp only [hlen]
    · obtain ⟨cur, _, h2, _⟩ := hrow
      exact h2
    · obtain ⟨cur, _, _, h3, _⟩ := hrow
      unfold maxLen at h3
      omega
  · injection e with e
    injection e with e1 e2
    subst e1 e2
    have hkb : k < bs.length := by simpa [imL] using hk
    obtain ⟨i, hi⟩ := hbs bs[k] (List.getElem_mem hkb)
    obtain ⟨s, hs, g, cc, hr, hd, hrow, hlen⟩ := dOf_held h hi
    obtain ⟨a1, a2⟩ := imV_at L bs k hkb
    rw [show 0 + k * 2 + 1 = k * 2 + 1 by omega, cell _ (by omega), a2, hd] at hcell
    injection hcell with hcell
    injection hcell with h1 _ _
    rw [← h1] at ex
    injection ex with ex
    rw [← ex]
    exact ⟨s, hs, cc, hr⟩
def cl (s : Sl) : Sl := { s with dirty := false }
def cln (k : Nat) (L : List Sl) : List Sl := (L.take k).map cl ++ L.drop k
theorem cln_zero (L : List Sl) : cln 0 L = L := by simp [cln]
theorem cln_all (L : List Sl) : cln L.length L = L.map cl := by simp [cln]
theorem cln_len (k : Nat) (L : List Sl) (h : k ≤ L.length) : (cln k L).length = L.length := by simp [cln]; omega
theorem cln_get (k : Nat) (L : List Sl) (h : k < L.length) : (cln k L)[k]? = some L[k] := by
  have h1 : ((L.take k).map cl).length = k := by simp; omega
  unfold cln
  rw [List.getElem?_append_right (by omega), h1, Nat.sub_self]
  simp [h]
theorem cln_set (k : Nat) (L : List Sl) (h : k < L.length) : (cln k L).set k (cl L[k]) = cln (k + 1) L := by
  have h1 : ((L.take k).map cl).length = k := by simp; omega
  have hd : L.drop k = L[k] :: L.drop (k + 1) := by rw [List.drop_eq_getElem_cons h]
  unfold cln
  rw [List.set_append_right _ _ (by omega), h1, Nat.sub_self, hd, List.set_cons_zero, List.take_succ_eq_append_getElem h, List.map_append, List.append_assoc]
  rfl
theorem CS.comm {w u : World} {c v sg dg j gm cn cn' : Nat} {hand : Int} {L : List Sl} {S S' : J.JS} {xs xs' : List Int} {D D' : DS} {dat dat' : Int → Option (List UInt8)} {F F' : Nat → Prop} (h : CS w c v sg hand L dg j gm S xs D cn dat F) (hv : VWA (fun i => i = sg ∨ i = c) u v dg j gm 2 false S' xs' D' cn' dat' F') (hF : ∀ i, F' i → F i ∨ w.heap.size ≤ i) (hu : Upd (fun i => F i ∨ i = gm) w u) : CS u c v sg hand L dg j gm S' xs' D' cn' dat' F' := by
  have no : ∀ i, i < w.heap.size → ¬ F i → ¬ F' i := fun i hi hn hf => by rcases hF i hf with h1 | h1; exact hn h1; omega
  have hc := h.sep c (.inr rfl)
  have hs := h.sep sg (.inl rfl)
  refine ⟨⟨hu.box h.cd.box (by simp [hc.1, hc.2.2]), hu.box h.cd.sl (by simp [hs.1, hs.2.2]), h.cd.ne, fun s hs g cc e => ?_⟩, hv, fun i hi => ?_, fun s hs g cc e => ?_⟩
  · have h1 := h.row s hs g cc e
    exact ⟨hu.rowB (h.cd.rows s hs g cc e).1 (by simp [h1.1, h1.2]), (h.cd.rows s hs g cc e).2⟩
  · have h1 := h.sep i hi
    refine ⟨no i ?_ h1.1, h1.2⟩
    rcases hi with rfl | rfl
    · exact h.cd.sl.lt
    · exact h.cd.box.lt
  · have h1 := h.row s hs g cc e
    exact ⟨no g (h.cd.rows s hs g cc e).1.lt h1.1, h1.2⟩
end Go.Proofs.YtnldkpckojhbhaaGreat.C

/-
  Commit: the walk.
-/
namespace Go.Proofs.YtnldkpckojhbhaaGreat.C
open Go.RowKit
open Go.Proofs.YtnldkpckojhbhaaGreat.Dk (Box DS RowB Upd)
open Go.Proofs.YtnldkpckojhbhaaGreat.V (VW VWA vC vcells Mq MayG dats commit_ok)
set_option maxRecDepth 100000 in
set_option maxHeartbeats 4000000 in
theorem commitC_at {w : World} {c v sg dg j gm cn : Nat} {hand : Int} {L : List Sl} {S : J.JS} {xs : List Int} {D : DS} {dat : Int → Option (List UInt8)} {F : Nat → Prop} (h : CS w c v sg hand L dg j gm S xs D cn dat F) (h64 : L.length ≤ 64) (bs : List Int) (hbs : srt (gat (fun s => s.dirty) L) = bs) (n : Nat) (hl : bs.length = n) (h0 : 0 < n) (hfind : ∀ b ∈ bs, ∃ i, L.findIdx? (isAt b) = some i)
    (hG : MayG (imL L bs)) (hBl : ∀ i ∈ imL L bs, 18 ≤ i.1 ∧ i.1 ≤ 63) (h15 : n ≤ 15) (hok : Rc.okGroup S.epoch S.next (imL L bs)) (hJb : S.broken = false) (hR : Rg.R S.S S.T S.U S.H) (hS16 : S.S = 16) (hH : S.H = 0) (hroom : S.U + ((n : Int) + 1) ≤ 16) (hlog : S.log = 2) (hc : J.Calm D) (hnb : D.nb = 64) (hd1 : D.uf.length ≤ 900000) (hd2 : D.n ≤ 900000) (hx : xs.length ≤ 1000) (hcn : cn ≤ 100000) :
    Calls Tryz.prog 61 #[.pointer (some ⟨c, 0, none⟩)] w fun r w' => r = .returned (.tuple #[.int .i64 S.next, .int .i64 0]) ∧ ∃ F', CS w' c v sg hand (L.map cl) dg j gm { S with next := S.next + 1, U := S.U + (n + 1 : Nat), H := S.H - 0 } (xs ++ [((n + 1 : Nat) : Int)]) (J.grow D S.S.toNat ((S.T + S.U) % S.S).toNat (Rc.putL S.epoch.toNat S.next.toNat (imL L bs)) (n + 1)) (cn + n) (dats dat (imL L bs)) F' ∧ (∀ i, F' i → F i ∨ w.heap.size ≤ i) ∧ Upd (fun i => F i ∨ i = gm ∨ i = sg ∨ i = c) w w' := by
  have hil : (imL L bs).length = n := by simp [imL, hl]
  have HS : Hid (CS w c v sg hand L dg j gm S xs D cn dat F) := h
  have cM := isMade_at h.cd
  have cD := dirtyAll_at h.cd h64
  rw [hbs, hl] at cD
  have H64 : Hid (L.length ≤ 64) := h64
  have HV : Hid (∀ (u : World) (q cap : Nat), Below w.heap.size w u → w.heap.size ≤ q → Rc.Imgs u (some ⟨q, 0, none⟩) (imL L bs) → (∀ k (hk : k < (imL L bs).length) (b o : Nat) (x : Option Addr) (c : Nat), some (⟨q, 0, none⟩ : Addr) = some ⟨b, o, none⟩ → u.cell? ⟨b, o + k * 2 + 1, none⟩ = some (.slice x (imL L bs)[k].2.length c) → ∀ ad, x = some ad → ∃ s ∈ L, ∃ cc, s.row = some (ad.block, cc)) →
      Calls Tryz.prog 15 #[.pointer (some ⟨v, 0, none⟩), .slice (some ⟨q, 0, none⟩) n cap] u fun r w' => r = .returned (.tuple #[.int .i64 S.next, .int .i64 0]) ∧ ∃ F', CS w' c v sg hand L dg j gm { S with next := S.next + 1, U := S.U + (n + 1 : Nat), H := S.H - 0 } (xs ++ [((n + 1 : Nat) : Int)]) (J.grow D S.S.toNat ((S.T + S.U) % S.S).toNat (Rc.putL S.epoch.toNat S.next.toNat (imL L bs)) (n + 1)) (cn + n) (dats dat (imL L bs)) F' ∧ (∀ i, F' i → F i ∨ w.heap.size ≤ i) ∧ Upd (fun i => F i ∨ i = gm) w w') := fun u q cap hu hq hI hD => by
    have hb := h.below hu
    have hlt := h.vw.vlt
    refine (commit_ok hb.vw (fun i hi => by rcases hi with rfl | rfl; exact hb.cd.sl.lt; exact hb.cd.box.lt) (some ⟨q, 0, none⟩) n cap (imL L bs) hil hI (fun ad e => by
      injection e with e
      rw [← e]
      exact ⟨fun hf => by have := h.flt q hf; omega, by simp; omega⟩) (fun k hk b o x c' e1 e2 ad e3 => by
      obtain ⟨s, hs, cc, hr⟩ := hD k hk b o x c' e1 e2 ad e3
      exact h.row s hs ad.block cc hr) hG hBl h15 hok hJb hR hS16 hH hroom hlog hc hnb hd1 hd2 hx hcn).mono ?_
    rintro r w' ⟨rfl, F', hv, hF, hup⟩
    have hF2 : ∀ i, F' i → F i ∨ w.heap.size ≤ i := fun i hi => by
      rcases hF i hi with h1 | h1
      · exact .inl h1
      · exact .inr (Nat.le_trans hu.size h1)
    exact ⟨rfl, F', hb.comm hv hF hup, hF2, (Upd.of_below hu).trans hup (fun i hi => .inl hi)⟩
  have HF : Hid (∀ b ∈ bs, ∃ i, L.findIdx? (isAt b) = some i) := hfind
  have Hn : Hid (bs.length = n ∧ 0 < n ∧ n ≤ 15) := ⟨hl, h0, h15⟩
  obtain ⟨PL, hPL⟩ : ∃ PL : List Sl → World → Prop, PL = fun Lx u => ∃ F', CS u c v sg hand Lx dg j gm { S with next := S.next + 1, U := S.U + (n + 1 : Nat), H := S.H - 0 } (xs ++ [((n + 1 : Nat) : Int)]) (J.grow D S.S.toNat ((S.T + S.U) % S.S).toNat (Rc.putL S.epoch.toNat S.next.toNat (imL L bs)) (n + 1)) (cn + n) (dats dat (imL L bs)) F' ∧ (∀ i, F' i → F i ∨ w.heap.size ≤ i) ∧ Upd (fun i => F i ∨ i = gm ∨ i = sg ∨ i = c) w u := ⟨_, rfl⟩
  have HPL : Hid (∀ u, PL (L.map cl) u → ∃ F', CS u c v sg hand (L.map cl) dg j gm { S with next := S.next + 1, U := S.U + (n + 1 : Nat), H := S.H - 0 } (xs ++ [((n + 1 : Nat) : Int)]) (J.grow D S.S.toNat ((S.T + S.U) % S.S).toNat (Rc.putL S.epoch.toNat S.next.toNat (imL L bs)) (n + 1)) (cn + n) (dats dat (imL L bs)) F' ∧ (∀ i, F' i → F i ∨ w.heap.size ≤ i) ∧ Upd (fun i => F i ∨ i = gm ∨ i = sg ∨ i = c) w u) := fun u hu => by rw [hPL] at hu; exact hu
  have HV2 : Hid (∀ (u : World) (q cap : Nat), Below w.heap.size w u → w.heap.size ≤ q → Rc.Imgs u (some ⟨q, 0, none⟩) (imL L bs) → (∀ k (hk : k < (imL L bs).length) (b o : Nat) (x : Option Addr) (c : Nat), some (⟨q, 0, none⟩ : Addr) = some ⟨b, o, none⟩ → u.cell? ⟨b, o + k * 2 + 1, none⟩ = some (.slice x (imL L bs)[k].2.length c) → ∀ ad, x = some ad → ∃ s ∈ L, ∃ cc, s.row = some (ad.block, cc)) →
      Calls Tryz.prog 15 #[.pointer (some ⟨v, 0, none⟩), .slice (some ⟨q, 0, none⟩) n cap] u fun r w' => r = .returned (.tuple #[.int .i64 S.next, .int .i64 0]) ∧ PL (cln 0 L) w') := fun u q cap h1 h2 h3 h4 => (HV.out u q cap h1 h2 h3 h4).mono fun r w' ⟨e, F', k1, k2, k3⟩ => ⟨e, by rw [hPL, cln_zero]; exact ⟨F', k1, k2, ⟨k3.os, k3.tape, k3.output, k3.size, fun i hi hn => k3.block i hi (fun hq => hn (by rcases hq with hq | hq; exact .inl hq; exact .inr (.inl hq)))⟩⟩⟩
  have HStep : Hid (∀ (u : World) (k : Nat) (hk : k < L.length), PL (cln k L) u → (u.cell? ⟨c, 2, none⟩ = some (.slice (some ⟨sg, 0, none⟩) L.length L.length) ∧ (∃ d, u.cell? ⟨sg, k * 5 + 3, none⟩ = some (.bool d)) ∧ u.frozen? ⟨sg, k * 5 + 3, none⟩ = false) ∧ PL (cln (k + 1) L) (u.setCell ⟨sg, k * 5 + 3, none⟩ (.bool false))) := fun u k hk hu => by
    rw [hPL] at hu
    obtain ⟨F', k1, k2, k3⟩ := hu
    have hcl := cln_len k L (Nat.le_of_lt hk)
    have hkc : k < (cln k L).length := by omega
    have hg := cln_get k L hk
    have hgk : (cln k L)[k] = L[k] := by
      have := List.getElem?_eq_getElem hkc
      rw [hg] at this
      injection this with this
      exact this.symm
    refine ⟨⟨by rw [← hcl]; exact k1.cd.box.cell 2, ⟨_, (k1.cd.slot k hkc).c3⟩, k1.cd.sl.frozen _⟩, ?_⟩
    have hone := k1.cd.one k hkc (cl L[k]) 3 (by decide) (.bool false) (by rw [hgk]; rfl) (by rw [hgk]; exact ⟨rfl, rfl⟩)
    rw [cln_set k L hk] at hone
    have hup : Upd (fun i => i = sg ∨ i = c) u (u.setCell ⟨sg, k * 5 + 3, none⟩ (.bool false)) := (Upd.refl _ u).setCell (.inl (.inl rfl)) _
    rw [hPL]
    refine ⟨F', k1.upd hone hup (fun s hs g cc e => .inl ?_), k2, k3.trans hup (fun i hi => .inl (.inr (.inr hi)))⟩
    rw [← cln_set k L hk] at hs
    rcases List.mem_or_eq_of_mem_set hs with h1 | h1
    · exact ⟨s, h1, e⟩
    · refine ⟨(cln k L)[k], List.getElem_mem hkc, ?_⟩
      rw [hgk, ← e, h1]
      rfl
  have HCd : Hid (∀ u, PL (cln 0 L) u → u.cell? ⟨c, 2, none⟩ = some (.slice (some ⟨sg, 0, none⟩) L.length L.length)) := fun u hu => by
    rw [hPL] at hu
    obtain ⟨F', k1, _⟩ := hu
    have := k1.cd.box.cell 2
    rw [cln_zero] at this
    exact this
  obtain ⟨nx, hnx⟩ : ∃ nx, nx = S.next := ⟨_, rfl⟩
  rw [← hnx] at HV2
  have Hnx : Hid (nx = S.next) := hnx
  obtain ⟨N, hN⟩ : ∃ N, N = L.length := ⟨_, rfl⟩
  have HN : Hid (N = L.length) := hN
  have hN64 : N ≤ 64 := by omega
  have c1 : w.cell? ⟨c, 1, none⟩ = some (.pointer (some ⟨v, 0, none⟩)) := h.cd.box.cell 1
  have HC1 : Hid (∀ u, Below w.heap.size w u → u.cell? ⟨c, 1, none⟩ = some (.pointer (some ⟨v, 0, none⟩))) := fun u hu => ((h.below hu).cd.box.cell 1)
  clear h hbs hG hBl hok hR hlog hc hnb hd1 hd2 hx hcn hfind hil hroom hH hS16 hJb hPL HV hnx hN c1 hl h0 h15 h64
  go_enter Tryz.func61, Tryz.ntmps61
  go_wp2_with fail
  refine Calls.mono cM ?_
  rintro e wx ⟨rfl, hwx⟩
  subst hwx
  clear cM
  go_wp2_with fail
  refine Calls.mono cD ?_
  rintro e w1 ⟨v1, rfl, o1, b1⟩
  obtain ⟨g1, cap1, rfl, hc1⟩ := owns_at o1 Hn.out.2.1
  have cI := images_at (cb := cap1) (HS.out.below b1).cd H64.out bs Hn.out.1 (by have := Hn.out.2.2; omega) HF.out hc1
  have HB1 : Hid (Below w.heap.size w w1) := b1
  clear cD o1 b1 hc1
  go_wp2_with fail
  refine Calls.mono cI ?_
  rintro e w2 ⟨v2, rfl, o2, b2⟩
  have b2' : Below w.heap.size w w2 := HB1.out.trans (b2.mono HB1.out.size)
  obtain ⟨q2, cap2, rfl, hq2, hI2, hD2⟩ := imgs_held (w := w1) (HS.out.below b2').cd bs Hn.out.1 Hn.out.2.1 HF.out o2
  have cV := HV2.out w2 q2 cap2 b2' (Nat.le_trans HB1.out.size hq2) hI2 hD2
  have x1 := HC1.out w2 b2'
  have hnz : ¬ (n : Int) = 0 := by have := Hn.out.2.1; omega
  have hnzb : ((n : Int) == 0) = false := by simpa using hnz
  clear cI o2 b2 b2' hI2 hD2
  go_wp2_with fail
  refine Calls.mono cV ?_
  rintro e w3 ⟨rfl, hp3⟩
  have x2 := HCd.out w3 hp3
  rw [← HN.out] at x2
  have HP3 : Hid (PL (cln 0 L) w3) := hp3
  clear cV hp3 x1
  go_wp2_with fail
  go_loopw [35] (fun i u => ∃ k : Nat, k ≤ N ∧ i = .int .i64 (k : Int) ∧ PL (cln k L) u) (fun i _ => N - (intOf i).toNat)
  case atStart => exact ⟨0, Nat.zero_le _, rfl, HP3.out⟩
  case round =>
    obtain ⟨k, hk, rfl, hp⟩ := hrel
    have HPk : Hid (PL (cln k L) wr) := hp
    clear HP3 x2
    by_cases hlt : k < N
    · have hki : (k : Int) < (N : Int) := by omega
      obtain ⟨⟨y1, ⟨d, y2⟩, y3⟩, y4⟩ := HStep.out wr k (by rw [← HN.out]; exact hlt) hp
      rw [← HN.out] at y1
      have HPn : Hid (PL (cln (k + 1) L) (wr.setCell ⟨sg, k * 5 + 3, none⟩ (.bool false))) := y4
      clear y4 hp HPk
      go_wp2_with fail
      go_roundw
      case rel => exact ⟨k + 1, by omega, by go_num, HPn.out⟩
      case measure => simp [intOf]; omega
    · have hkN : k = N := by omega
      subst k
      have HPf : Hid (PL (L.map cl) wr) := by
        have h1 := hp
        rw [HN.out, cln_all] at h1
        exact h1
      clear hp HPk
      go_wp2_with fail
      exact bodyPost_ret (v := .tuple #[.int .i64 nx, .int .i64 0]) (by simp [results, Tryz.results61, go_sem]) rfl ⟨by rw [Hnx.out], HPL.out _ HPf.out⟩
end Go.Proofs.YtnldkpckojhbhaaGreat.C

/-
  load of cache's law, where a slot is empty and where the clock empties one.
-/
namespace Go.Proofs.YtnldkpckojhbhaaGreat.C
open Go.RowKit
open Go.Proofs.YtnldkpckojhbhaaGreat.Dk (Box DS RowB Upd)
open Go.Proofs.YtnldkpckojhbhaaGreat.V (VW VWA vC vcells Mq read_disk)
theorem srt_of {l l' : List Int} (hp : l'.Perm l) (hs : l'.Pairwise (· ≤ ·)) : srt l = l' := by
  have h1 : (srt l).Perm l' := (List.mergeSort_perm l _).trans hp.symm
  have h2 : (srt l).Pairwise (· ≤ ·) := by
    have := List.pairwise_mergeSort (le := fun x y : Int => decide (x ≤ y)) (by intro a b c; simp; omega) (by intro a b; simp; omega) l
    exact this.imp (by intro a b hab; simpa using hab)
  exact h1.eq_of_pairwise (fun a b _ _ h3 h4 => by omega) h2 hs
section
variable {w w' : World} {c v sg dg j gm cn : Nat} {hand : Int} {L : List Sl} {S : J.JS} {xs : List Int} {D : DS} {dat : Int → Option (List UInt8)} {F : Nat → Prop}
theorem CS.readZ (h : CS w c v sg hand L dg j gm S xs D cn dat F) (hnb : D.nb = 64) (hg : D.gone = false) (hu : D.uf.length ≤ 1000000) (n : Nat) (hn : n < 64) (hd : dat n = none) (zs : List UInt8) (hz : D.stand n = zs) : ∀ u, Below w.heap.size w u → Calls Tryz.prog 24 #[.pointer (some ⟨v, 0, none⟩), .int .i64 (n : Int)] u fun r w' => ∃ g c, r = .returned (.tuple #[.slice (some ⟨g, 0, none⟩) 4096 c, .int .i64 0]) ∧ u.heap.size ≤ g ∧ RowB w' g c zs ∧ Below u.heap.size u w' := fun u b => by
  have := read_disk (h.vw.below b) n hn hnb hg hu hd
  rwa [hz] at this
def Ld (c v sg : Nat) (dg j gm : Nat) (S : J.JS) (xs : List Int) (D : DS) (cn : Nat) (dat : Int → Option (List UInt8)) (F : Nat → Prop) (w : World) (hand : Int) (K : Nat → Nat → List Sl) (u : World) : Prop := ∃ g1 c1, CS u c v sg hand (K g1 c1) dg j gm S xs D cn dat F ∧ Upd (fun i => i = sg ∨ i = c) w u
theorem Ld.below {K : Nat → Nat → List Sl} {u u' : World} (h : Ld c v sg dg j gm S xs D cn dat F w hand K u) (b : Below u.heap.size u u') : Ld c v sg dg j gm S xs D cn dat F w hand K u' := by
  obtain ⟨g1, c1, h1, h2⟩ := h
  exact ⟨g1, c1, h1.below b, h2.trans (Upd.of_below (F := fun _ => False) b) (fun i hi => hi.elim)⟩
theorem args_kept (h : CS w c v sg hand L dg j gm S xs D cn dat F) {hb : Nat} {held : List Int} (hx : Box w hb (zcs held).toArray 3) {u : World} (hu : Upd (fun i => i = sg ∨ i = c) w u) : ∀ k (hk : k < held.length), u.cell? ⟨hb, 0 + k, none⟩ = some (.int .i64 held[k]) := fun k hk => by
  have hn : ¬ (hb = sg ∨ hb = c) := by
    rintro (e | e)
    · exact (hx.ne h.cd.sl (by decide)) e
    · exact (hx.ne h.cd.box (by decide)) e
  have := (hu.box hx hn).cell k
  rw [Nat.zero_add, this]
  simp [zcs, hk]
theorem CS.ldNew (h : CS w c v sg hand L dg j gm S xs D cn dat F) (h64 : L.length ≤ 64) (hnb : D.nb = 64) (hg : D.gone = false) (hu : D.uf.length ≤ 1000000) (n : Nat) (z : Int) (hzn : z = (n : Int)) (hn : n < 64) (hd : dat z = none) (zs : List UInt8) (hz : D.stand n = zs) (hzl : zs.length = 4096)
    (hno : L.findIdx? (isAt z) = none) (e : Nat) (he : L.findIdx? (fun s => s.row.isNone) = some e) (held : List Int) (k : Nat) (hk : held.length = k) (hk0 : 0 < k) (hk9 : k ≤ 64) (hheld : ∀ g1 c1, srt (gat (fun _ => true) (L.set e ⟨z, some (g1, c1), zs, 0, false, true⟩)) = held) {hb : Nat} (hx : Box w hb (zcs held).toArray 3) :
    Calls Tryz.prog 65 #[.pointer (some ⟨c, 0, none⟩), .int .i64 z, .slice (some ⟨hb, 0, none⟩) k k] w fun r w' => r = .returned (.bool true) ∧ Ld c v sg dg j gm S xs D cn dat F w hand (fun g1 c1 => L.set e ⟨z, some (g1, c1), zs, 0, false, true⟩) w' := by
  subst hzn
  refine lawLoad_at (v := v) (sg := sg) held hk hk0 hk9 (Ld c v sg dg j gm S xs D cn dat F w hand (fun g1 c1 => L.set e ⟨n, some (g1, c1), zs, 0, false, true⟩)) ?_ (fun u hp => ?_) (fun u u' hp b => hp.below b)
  · refine (load_new h.cd h64 (n : Int) hno e he zs hzl (h.readZ hnb hg hu n hn hd zs hz)).mono ?_
    rintro r w' ⟨g', c', g1, c1, rfl, _, hg1, _, hC, hU⟩
    refine ⟨g', c', rfl, g1, c1, h.upd hC (upd_sg hU) (fun s hs g cc e1 => ?_), upd_sg hU⟩
    rcases List.mem_or_eq_of_mem_set hs with h1 | h1
    · exact .inl ⟨s, h1, e1⟩
    · rw [h1] at e1
      simp only [Option.some.injEq, Prod.mk.injEq] at e1
      exact .inr (by omega)
  · obtain ⟨g1, c1, h1, h2⟩ := hp
    exact ⟨⟨hand, _, h1.cd, by simpa using h64, hheld g1 c1⟩, args_kept h hx h2⟩
theorem CS.ldClock {hd : Nat} (h : CS w c v sg (hd : Int) L dg j gm S xs D cn dat F) (N : Nat) (hN : L.length = N) (hN1 : 1 ≤ N) (h64 : N ≤ 64) (hh : hd < N) (hfull : ∀ j (hj : j < L.length), L[j].row.isNone = false) (L' : List Sl) (h' e : Nat) (hcl : clock (2 * N) L hd = (L', h', some e)) (heL : e < L'.length) (hL64 : L'.length ≤ 64) (hrows : ∀ s ∈ L', ∀ g cc, s.row = some (g, cc) → ∃ s0 ∈ L, s0.row = some (g, cc))
    (hnb : D.nb = 64) (hg : D.gone = false) (hu : D.uf.length ≤ 1000000) (n : Nat) (z : Int) (hzn : z = (n : Int)) (hn : n < 64) (hdat : dat z = none) (zs : List UInt8) (hz : D.stand n = zs) (hzl : zs.length = 4096)
    (hno : L.findIdx? (isAt z) = none) (held : List Int) (k : Nat) (hk : held.length = k) (hk0 : 0 < k) (hk9 : k ≤ 64) (hheld : ∀ g1 c1, srt (gat (fun _ => true) (L'.set e ⟨z, some (g1, c1), zs, 0, false, true⟩)) = held) {hb : Nat} (hx : Box w hb (zcs held).toArray 3) :
    Calls Tryz.prog 65 #[.pointer (some ⟨c, 0, none⟩), .int .i64 z, .slice (some ⟨hb, 0, none⟩) k k] w fun r w' => r = .returned (.bool true) ∧ Ld c v sg dg j gm S xs D cn dat F w (h' : Int) (fun g1 c1 => L'.set e ⟨z, some (g1, c1), zs, 0, false, true⟩) w' := by
  subst hzn
  refine lawLoad_at (v := v) (sg := sg) held hk hk0 hk9 (Ld c v sg dg j gm S xs D cn dat F w (h' : Int) (fun g1 c1 => L'.set e ⟨n, some (g1, c1), zs, 0, false, true⟩)) ?_ (fun u hp => ?_) (fun u u' hp b => hp.below b)
  · refine (load_clock h.cd hN hN1 h64 hh hfull L' h' e hcl heL (n : Int) hno zs hzl (h.readZ hnb hg hu n hn hdat zs hz)).mono ?_
    rintro r w' ⟨g', c', g1, c1, rfl, _, hg1, _, hC, hU⟩
    refine ⟨g', c', rfl, g1, c1, h.upd hC hU (fun s hs g cc e1 => ?_), hU⟩
    rcases List.mem_or_eq_of_mem_set hs with h1 | h1
    · exact .inl (hrows s h1 g cc e1)
    · rw [h1] at e1
      simp only [Option.some.injEq, Prod.mk.injEq] at e1
      exact .inr (by omega)
  · obtain ⟨g1, c1, h1, h2⟩ := hp
    exact ⟨⟨_, _, h1.cd, by simpa using hL64, hheld g1 c1⟩, args_kept h hx h2⟩
end
end Go.Proofs.YtnldkpckojhbhaaGreat.C

/-
  The chapter's example of cache.
-/
namespace Go.Proofs.YtnldkpckojhbhaaGreat.C
open Go.RowKit
open Go.Proofs.YtnldkpckojhbhaaGreat.Dk (Box DS RowB Upd nought)
open Go.Proofs.YtnldkpckojhbhaaGreat.V (VW VWA vC vcells Mq MayG dats f2 f2_zero)
open Go.Proofs.YtnldkpckojhbhaaGreat.Rc (madeL)
def sl (b : Int) (g c : Nat) (zs : List UInt8) (pins : Int) (d m : Bool) : Sl := ⟨b, some (g, c), zs, pins, d, m⟩
theorem hit0 (a b : Int) (g c g' c' : Nat) (zs zs' : List UInt8) (p p' : Int) (d m d' m' : Bool) : [sl a g c zs p d m, sl b g' c' zs' p' d' m'].findIdx? (isAt a) = some 0 := by
  simp [isAt, sl, List.findIdx?_cons]
theorem hit1 {a b : Int} (h : a ≠ b) (g c g' c' : Nat) (zs zs' : List UInt8) (p p' : Int) (d m d' m' : Bool) : [sl a g c zs p d m, sl b g' c' zs' p' d' m'].findIdx? (isAt b) = some 1 := by
  simp [isAt, sl, List.findIdx?_cons, h]
theorem full2 (a b : Int) (g c g' c' : Nat) (zs zs' : List UInt8) (p p' : Int) (d m d' m' : Bool) : ∀ j (hj : j < [sl a g c zs p d m, sl b g' c' zs' p' d' m'].length), [sl a g c zs p d m, sl b g' c' zs' p' d' m'][j].row.isNone = false := fun j hj => by
  match j, hj with
  | 0, _ => rfl
  | 1, _ => rfl
theorem held2 (a b : Int) (g c g' c' : Nat) (zs zs' : List UInt8) (p p' : Int) (d m d' m' : Bool) (h : b ≤ a) : srt (gat (fun _ => true) [sl a g c zs p d m, sl b g' c' zs' p' d' m']) = [b, a] :=
  srt_of (by simp [gat, sl]; exact List.Perm.swap _ _ _) (by simp [h])
theorem clock_a (g c g' c' : Nat) (zs zs' : List UInt8) (a b : Int) : clock (2 * 2) [sl a g c zs 0 false true, sl b g' c' zs' 0 false true] 0 = ([empty, sl b g' c' zs' 0 false false], 1, some 0) := by
  simp [clock, stays, sl]
theorem clock_b (g c g' c' : Nat) (zs zs' : List UInt8) (a b : Int) (m' : Bool) : clock (2 * 2) [sl a g c zs 0 false true, sl b g' c' zs' 1 false m'] 1 = ([empty, sl b g' c' zs' 1 false m'], 1, some 0) := by
  simp [clock, stays, sl]
theorem clock_c (g c g' c' : Nat) (zs zs' : List UInt8) (a b : Int) (m m' : Bool) : clock (2 * 2) [sl a g c zs 0 true m, sl b g' c' zs' 1 false m'] 1 = ([sl a g c zs 0 true m, sl b g' c' zs' 1 false m'], 1, none) := by
  simp [clock, stays, sl]
def isq (ml : List UInt8) : List (Int × List UInt8) := [(33, ml)]
theorem isq_ok (ml : List UInt8) (h4 : ml.length = 4096) : MayG (isq ml) ∧ (∀ i ∈ isq ml, 18 ≤ i.1 ∧ i.1 ≤ 63) ∧ Rc.okGroup 2 1 (isq ml) := by
  have hlen : ∀ i ∈ isq ml, i.2.length = 4096 := fun i hi => by
    have e : i = (33, ml) := List.mem_singleton.1 hi
    rw [e]
    exact h4
  have hin : ∀ i ∈ isq ml, i.1 = 33 := fun i hi => by
    have e : i = (33, ml) := List.mem_singleton.1 hi
    rw [e]
  have hm : (isq ml).map (·.1) = [33] := rfl
  refine ⟨⟨Nat.le_refl _, (by show 1 ≤ 32; decide), hlen, by rw [hm]; decide, fun i hi => by rw [hin i hi]; rfl⟩, fun i hi => by rw [hin i hi]; decide, ?_, hlen⟩
  rw [hm]
  refine ⟨rfl, by decide, ?_⟩
  intro j h _
  match j, h with
  | 0, _ => simp
structure Vq (D : DS) (zs : List UInt8) : Prop where
  nb : D.nb = 64
  gone : D.gone = false
  uf : D.uf.length ≤ 1000
  st : ∀ k, 30 ≤ k → k < 40 → D.stand k = zs
set_option maxRecDepth 100000 in
set_option maxHeartbeats 4000000 in
theorem awake_at (w : World) : Calls Tryz.prog 72 #[] w fun r w' => r = .returned (.bool true) ∧ Below w.heap.size w w' := by
  obtain ⟨zs, hzs⟩ : ∃ zs, zs = nought 4096 := ⟨_, rfl⟩
  have hzl : zs.length = 4096 := by rw [hzs]; exact Dk.nought_length 4096
  have HZ : Hid (zs = nought 4096) := hzs
  have HZl : Hid (zs.length = 4096) := hzl
  clear hzs hzl
  have c0 := fresh_at 2 (by decide) (by decide) w
  go_enter Tryz.func72, Tryz.ntmps72
  go_wp2_with fail
  refine Calls.mono c0 ?_
  rintro r w1 ⟨dg, v, j, gm, F, D, c, sg, rfl, hC, f1, f2', n1, n2, n3, n4, lc, ls, hV, hM, hU, hFl, lv, lg, B1⟩
  have HS1 : Hid (CS w1 c v sg ((0 : Nat) : Int) [empty, empty] dg j gm (J.opened 64 2 1 0) [] D 0 (fun _ => none) F) := ⟨hC, hV.wide _, fun i hi => by rcases hi with rfl | rfl; exact ⟨f2', n3, n4⟩; exact ⟨f1, n1, n2⟩, fun s hs g cc e => by simp [empty] at hs; rw [hs] at e; simp at e⟩
  have HB1 : Hid (Below w.heap.size w w1) := B1
  have HL : Hid ((∀ i, i = sg ∨ i = c → w.heap.size ≤ i) ∧ ∀ i, F i ∨ i = gm ∨ i = sg ∨ i = c → w.heap.size ≤ i) := ⟨fun i hi => by rcases hi with rfl | rfl; exact ls; exact lc, fun i hi => by rcases hi with hi | rfl | rfl | rfl; exact hFl i hi; exact lg; exact ls; exact lc⟩
  have HQ : Hid (Vq D zs) := ⟨hM.nb, hM.calm.1, by rw [hU]; simp, fun k h1 h2 => by rw [hM.at_ k (by omega), f2_zero k (by omega), HZ.out]⟩
  have HM : Hid (Mq D f2 24 ∧ D.uf = []) := ⟨hM, hU⟩
  clear c0 hC f1 f2' n1 n2 n3 n4 lc ls hV hM hU hFl lv lg B1
  have ax2 : Box (w1.alloc (.cells #[.int .i64 30] 3)) w1.heap.size (zcs [30]).toArray 3 := Box.new w1 #[.int .i64 30] 3
  have ab2 : Below w1.heap.size w1 (w1.alloc (.cells #[.int .i64 30] 3)) := (Below.refl _ _).alloc (Nat.le_refl _) _
  have cL2 := (HS1.out.below ab2).ldNew (by simp) HQ.out.nb HQ.out.gone (by have := HQ.out.uf; omega) 30 30 rfl (by decide) rfl zs (HQ.out.st 30 (by decide) (by decide)) HZl.out (by simp [isAt, empty]) 0 (by simp [empty, List.findIdx?_cons]) [30] 1 rfl (by decide) (by decide) (fun g1 c1 => srt_of (by simp [gat, empty]) (by simp)) ax2
  have HAb2 : Hid (Below w1.heap.size w1 (w1.alloc (.cells #[.int .i64 30] 3))) := ab2
  clear ax2 ab2
  go_wp2_with fail
  refine Calls.mono cL2 ?_
  rintro e w2 ⟨rfl, hl2⟩
  obtain ⟨g2, c2, hs2, hu2⟩ := hl2
  have HB2 : Hid (Below w.heap.size w w2) := (HB1.out.trans (HAb2.out.mono HB1.out.size)).trans (hu2.below HL.out.1 (Nat.le_trans HB1.out.size HAb2.out.size))
  have HS2 : Hid (CS w2 c v sg ((0 : Nat) : Int) [sl 30 g2 c2 zs 0 false true, empty] dg j gm (J.opened 64 2 1 0) [] D 0 (fun _ => none) F) := hs2
  clear cL2 hs2 hu2 HS1 HB1 HAb2
  have ax3 : Box (w2.alloc (.cells #[.int .i64 30, .int .i64 31] 3)) w2.heap.size (zcs [30, 31]).toArray 3 := Box.new w2 #[.int .i64 30, .int .i64 31] 3
  have ab3 : Below w2.heap.size w2 (w2.alloc (.cells #[.int .i64 30, .int .i64 31] 3)) := (Below.refl _ _).alloc (Nat.le_refl _) _
  have cL3 := (HS2.out.below ab3).ldNew (by simp) HQ.out.nb HQ.out.gone (by have := HQ.out.uf; omega) 31 31 rfl (by decide) rfl zs (HQ.out.st 31 (by decide) (by decide)) HZl.out (by simp [isAt, empty, sl]) 1 (by simp [empty, sl, List.findIdx?_cons]) [30, 31] 2 rfl (by decide) (by decide) (fun g1 c1 => srt_of (by simp [gat, empty, sl]) (by simp)) ax3
  have HAb3 : Hid (Below w2.heap.size w2 (w2.alloc (.cells #[.int .i64 30, .int .i64 31] 3))) := ab3
  clear ax3 ab3
  go_wp2_with fail
  refine Calls.mono cL3 ?_
  rintro e w3 ⟨rfl, hl3⟩
  obtain ⟨g3, c3, hs3, hu3⟩ := hl3
  have HB3 : Hid (Below w.heap.size w w3) := (HB2.out.trans (HAb3.out.mono HB2.out.size)).trans (hu3.below HL.out.1 (Nat.le_trans HB2.out.size HAb3.out.size))
  have HS3 : Hid (CS w3 c v sg ((0 : Nat) : Int) [sl 30 g2 c2 zs 0 false true, sl 31 g3 c3 zs 0 false true] dg j gm (J.opened 64 2 1 0) [] D 0 (fun _ => none) F) := hs3
  clear cL3 hs3 hu3 HS2 HB2 HAb3
  have ax4 : Box (w3.alloc (.cells #[.int .i64 31, .int .i64 32] 3)) w3.heap.size (zcs [31, 32]).toArray 3 := Box.new w3 #[.int .i64 31, .int .i64 32] 3
  have ab4 : Below w3.heap.size w3 (w3.alloc (.cells #[.int .i64 31, .int .i64 32] 3)) := (Below.refl _ _).alloc (Nat.le_refl _) _
  have cL4 := (HS3.out.below ab4).ldClock 2 rfl (by decide) (by decide) (by decide) (full2 _ _ _ _ _ _ _ _ _ _ _ _ _ _) [empty, sl 31 g3 c3 zs 0 false false] 1 0 (clock_a g2 c2 g3 c3 zs zs 30 31) (by simp) (by simp) (fun s hs g cc e => by
    rcases List.mem_cons.1 hs with h1 | h1
    · rw [h1] at e; simp [empty] at e
    · rw [List.mem_singleton.1 h1] at e; exact ⟨_, List.mem_cons_of_mem _ (List.mem_singleton.2 rfl), e⟩) HQ.out.nb HQ.out.gone (by have := HQ.out.uf; omega) 32 32 rfl (by decide) (rfl) zs (HQ.out.st 32 (by decide) (by decide)) HZl.out (by simp [isAt, sl]) [31, 32] 2 rfl (by decide) (by decide) (fun g1 c1 => held2 32 31 g1 c1 _ _ zs _ 0 _ false true _ _ (by decide)) ax4
  have HAb4 : Hid (Below w3.heap.size w3 (w3.alloc (.cells #[.int .i64 31, .int .i64 32] 3))) := ab4
  clear ax4 ab4
  go_wp2_with fail
  refine Calls.mono cL4 ?_
  rintro e w4 ⟨rfl, hl4⟩
  obtain ⟨g4, c4, hs4, hu4⟩ := hl4
  have HB4 : Hid (Below w.heap.size w w4) := (HB3.out.trans (HAb4.out.mono HB3.out.size)).trans (hu4.below HL.out.1 (Nat.le_trans HB3.out.size HAb4.out.size))
  have HS4 : Hid (CS w4 c v sg ((1 : Nat) : Int) [sl 32 g4 c4 zs 0 false true, sl 31 g3 c3 zs 0 false false] dg j gm (J.opened 64 2 1 0) [] D 0 (fun _ => none) F) := hs4
  clear cL4 hs4 hu4 HS3 HB3 HAb4
  have cP5 := pin_ok HS4.out.cd (by simp) 31 1 (by simp) (hit1 (by decide) g4 c4 g3 c3 zs zs 0 0 false true false false) 0 rfl (by decide) (by decide)
  go_wp2_with fail
  refine Calls.mono cP5 ?_
  rintro e w5 ⟨rfl, hC5, hU5⟩
  have HS5 : Hid (CS w5 c v sg ((1 : Nat) : Int) [sl 32 g4 c4 zs 0 false true, sl 31 g3 c3 zs 1 false false] dg j gm (J.opened 64 2 1 0) [] D 0 (fun _ => none) F) := HS4.out.upd hC5 (upd_sg hU5) (fun s hs g cc e => by
    rcases List.mem_cons.1 hs with h1 | h1
    · rw [h1] at e; exact .inl ⟨_, List.mem_cons_self .., e⟩
    · rw [List.mem_singleton.1 h1] at e; exact .inl ⟨_, List.mem_cons_of_mem _ (List.mem_singleton.2 rfl), e⟩)
  have HB5 : Hid (Below w.heap.size w w5) := HB4.out.trans ((upd_sg hU5).below HL.out.1 HB4.out.size)
  clear cP5 hC5 hU5 HS4 HB4
  have ax6 : Box (w5.alloc (.cells #[.int .i64 31, .int .i64 33] 3)) w5.heap.size (zcs [31, 33]).toArray 3 := Box.new w5 #[.int .i64 31, .int .i64 33] 3
  have ab6 : Below w5.heap.size w5 (w5.alloc (.cells #[.int .i64 31, .int .i64 33] 3)) := (Below.refl _ _).alloc (Nat.le_refl _) _
  have cL6 := (HS5.out.below ab6).ldClock 2 rfl (by decide) (by decide) (by decide) (full2 _ _ _ _ _ _ _ _ _ _ _ _ _ _) [empty, sl 31 g3 c3 zs 1 false false] 1 0 (clock_b g4 c4 g3 c3 zs zs 32 31 false) (by simp) (by simp) (fun s hs g cc e => by
    rcases List.mem_cons.1 hs with h1 | h1
    · rw [h1] at e; simp [empty] at e
    · rw [List.mem_singleton.1 h1] at e; exact ⟨_, List.mem_cons_of_mem _ (List.mem_singleton.2 rfl), e⟩) HQ.out.nb HQ.out.gone (by have := HQ.out.uf; omega) 33 33 rfl (by decide) (rfl) zs (HQ.out.st 33 (by decide) (by decide)) HZl.out (by simp [isAt, sl]) [31, 33] 2 rfl (by decide) (by decide) (fun g1 c1 => held2 33 31 g1 c1 _ _ zs _ 0 _ false true _ _ (by decide)) ax6
  have HAb6 : Hid (Below w5.heap.size w5 (w5.alloc (.cells #[.int .i64 31, .int .i64 33] 3))) := ab6
  clear ax6 ab6
  go_wp2_with fail
  refine Calls.mono cL6 ?_
  rintro e w6 ⟨rfl, hl6⟩
  obtain ⟨g6, c6, hs6, hu6⟩ := hl6
  have HB6 : Hid (Below w.heap.size w w6) := (HB5.out.trans (HAb6.out.mono HB5.out.size)).trans (hu6.below HL.out.1 (Nat.le_trans HB5.out.size HAb6.out.size))
  have HS6 : Hid (CS w6 c v sg ((1 : Nat) : Int) [sl 33 g6 c6 zs 0 false true, sl 31 g3 c3 zs 1 false false] dg j gm (J.opened 64 2 1 0) [] D 0 (fun _ => none) F) := hs6
  clear cL6 hs6 hu6 HS5 HB5 HAb6
  obtain ⟨ml, hml⟩ : ∃ ml, ml = madeL 1 4096 := ⟨_, rfl⟩
  have cM7 : Calls Tryz.prog 21 #[.int .i64 1, .int .i64 4096] w6 fun e w' => e = .returned (.slice (some ⟨w6.heap.size, 0, none⟩) 4096 4096) ∧ Rc.Own w' w6.heap.size ml ∧ Below w6.heap.size w6 w' := by rw [hml]; exact Rc.made_at 1 4096 w6 (by decide)
  have hm4 : ml.length = 4096 := by rw [hml]; exact Rc.madeK_length 1 4096 4096
  have HM4 : Hid (ml.length = 4096) := hm4
  clear hml hm4
  go_wp2_with fail
  refine Calls.mono cM7 ?_
  rintro e w7 ⟨rfl, o7, b7⟩
  have hr7 : Dk.Rd w7 (some ⟨w6.heap.size, 0, none⟩) ml := Rc.RowB.rd (Rc.RowB.own o7 (by rw [HM4.out]; unfold maxLen; decide))
  have hs7 := HS6.out.below b7
  have cP8 := put_ok hs7.cd (by simp) 33 0 (by simp) (hit0 33 31 g6 c6 g3 c3 zs zs 0 1 false true false false) ⟨w6.heap.size, 0, none⟩ 4096 ml HM4.out hr7
  have HS7 : Hid (CS w7 c v sg ((1 : Nat) : Int) [sl 33 g6 c6 zs 0 false true, sl 31 g3 c3 zs 1 false false] dg j gm (J.opened 64 2 1 0) [] D 0 (fun _ => none) F) := hs7
  have HB7 : Hid (Below w.heap.size w w7) := HB6.out.trans (b7.mono HB6.out.size)
  clear cM7 o7 b7 hr7 hs7 HS6 HB6
  go_wp2_with fail
  refine Calls.mono cP8 ?_
  rintro e w8 ⟨rfl, g8, c8, hg8, hC8, hU8⟩
  have HS8 : Hid (CS w8 c v sg ((1 : Nat) : Int) [sl 33 g8 c8 ml 0 true true, sl 31 g3 c3 zs 1 false false] dg j gm (J.opened 64 2 1 0) [] D 0 (fun _ => none) F) := HS7.out.upd hC8 (upd_sg hU8) (fun s hs g cc e => by
    rcases List.mem_cons.1 hs with h1 | h1
    · rw [h1] at e
      have e2 : some (g8, c8) = some (g, cc) := e
      injection e2 with e2
      injection e2 with e3 e4
      exact .inr (by omega)
    · rw [List.mem_singleton.1 h1] at e; exact .inl ⟨_, List.mem_cons_of_mem _ (List.mem_singleton.2 rfl), e⟩)
  have HB8 : Hid (Below w.heap.size w w8) := HB7.out.trans ((upd_sg hU8).below HL.out.1 HB7.out.size)
  clear cP8 hC8 hU8 hg8 HS7 HB7
  have cL9 := load_busy HS8.out.cd (N := 2) rfl (by decide) (by decide) (by decide) (full2 _ _ _ _ _ _ _ _ _ _ _ _ _ _) _ 1 (clock_c g8 c8 g3 c3 ml zs 33 31 true false) 34 (by simp [isAt, sl]) zs (HS8.out.readZ HQ.out.nb HQ.out.gone (by have := HQ.out.uf; omega) 34 (by decide) rfl zs (HQ.out.st 34 (by decide) (by decide)))
  go_wp2_with fail
  refine Calls.mono cL9 ?_
  rintro e w9 ⟨rfl, hC9, hU9⟩
  have HS9 : Hid (CS w9 c v sg ((1 : Nat) : Int) [sl 33 g8 c8 ml 0 true true, sl 31 g3 c3 zs 1 false false] dg j gm (J.opened 64 2 1 0) [] D 0 (fun _ => none) F) := HS8.out.upd hC9 hU9 (fun s hs g cc e => .inl ⟨s, hs, e⟩)
  have HB9 : Hid (Below w.heap.size w w9) := HB8.out.trans (hU9.below HL.out.1 HB8.out.size)
  clear cL9 hC9 hU9 HS8 HB8
  have eI : imL [sl 33 g8 c8 ml 0 true true, sl 31 g3 c3 zs 1 false false] [33] = isq ml := by
    simp only [imL, xOf, List.map_cons, List.map_nil, hit0]
    rfl
  have cC := commitC_at HS9.out (by simp) [33] (srt_of (by simp [gat, sl]) (by simp)) 1 rfl (by decide) (fun b hb => by
    have e : b = 33 := List.mem_singleton.1 hb
    rw [e]
    exact ⟨0, hit0 _ _ _ _ _ _ _ _ _ _ _ _ _ _⟩) (by rw [eI]; exact (isq_ok ml HM4.out).1) (by rw [eI]; exact (isq_ok ml HM4.out).2.1) (by decide) (by rw [eI]; exact (isq_ok ml HM4.out).2.2) rfl (by decide) rfl rfl (by decide) rfl HM.out.1.calm HM.out.1.nb (by rw [HM.out.2]; decide) (by have := HM.out.1.cnt; omega) (by decide) (by decide)
  rw [eI, show (J.opened 64 2 1 0).next = 1 by rfl] at cC
  clear eI
  go_wp2_with fail
  refine Calls.mono cC ?_
  rintro e w10 ⟨rfl, F2, hs10, hF2, hU10⟩
  obtain ⟨D2, hD2⟩ : ∃ D2, D2 = J.grow D (J.opened 64 2 1 0).S.toNat (((J.opened 64 2 1 0).T + (J.opened 64 2 1 0).U) % (J.opened 64 2 1 0).S).toNat (Rc.putL (J.opened 64 2 1 0).epoch.toNat (1 : Int).toNat (isq ml)) (1 + 1) := ⟨_, rfl⟩
  obtain ⟨S2, xs2, hS2⟩ : ∃ S2 xs2, CS w10 c v sg ((1 : Nat) : Int) [sl 33 g8 c8 ml 0 false true, sl 31 g3 c3 zs 1 false false] dg j gm S2 xs2 D2 1 (dats (fun _ => none) (isq ml)) F2 := ⟨_, _, by rw [hD2]; exact hs10⟩
  have HS10 : Hid (CS w10 c v sg ((1 : Nat) : Int) [sl 33 g8 c8 ml 0 false true, sl 31 g3 c3 zs 1 false false] dg j gm S2 xs2 D2 1 (dats (fun _ => none) (isq ml)) F2) := hS2
  have HB10 : Hid (Below w.heap.size w w10) := HB9.out.trans (hU10.below HL.out.2 HB9.out.size)
  have HQ2 : Hid (Vq D2 zs) := by
    rw [hD2]
    refine ⟨HQ.out.nb, HQ.out.gone, ?_, fun k h1 h2 => ?_⟩
    · show (D.uf ++ J.wrs 16 0 (Rc.putL 2 1 (isq ml)) 2).length ≤ 1000
      rw [HM.out.2]
      generalize Rc.putL 2 1 (isq ml) = L
      simp [J.wrs]
    · have e : (J.grow D 16 0 (Rc.putL 2 1 (isq ml)) 2).stand k = D.stand k := J.grow_out D 16 0 _ k 2 (fun i hi => by omega)
      exact e.trans (HQ.out.st k h1 h2)
  clear cC hs10 hF2 hU10 hD2 hS2 HS9 HB9 HM
  have ax11 : Box (w10.alloc (.cells #[.int .i64 31, .int .i64 34] 3)) w10.heap.size (zcs [31, 34]).toArray 3 := Box.new w10 #[.int .i64 31, .int .i64 34] 3
  have ab11 : Below w10.heap.size w10 (w10.alloc (.cells #[.int .i64 31, .int .i64 34] 3)) := (Below.refl _ _).alloc (Nat.le_refl _) _
  have cL11 := (HS10.out.below ab11).ldClock 2 rfl (by decide) (by decide) (by decide) (full2 _ _ _ _ _ _ _ _ _ _ _ _ _ _) [empty, sl 31 g3 c3 zs 1 false false] 1 0 (clock_b g8 c8 g3 c3 ml zs 33 31 false) (by simp) (by simp) (fun s hs g cc e => by
    rcases List.mem_cons.1 hs with h1 | h1
    · rw [h1] at e; simp [empty] at e
    · rw [List.mem_singleton.1 h1] at e; exact ⟨_, List.mem_cons_of_mem _ (List.mem_singleton.2 rfl), e⟩) HQ2.out.nb HQ2.out.gone (by have := HQ2.out.uf; omega) 34 34 rfl (by decide) (by simp [dats, isq]) zs (HQ2.out.st 34 (by decide) (by decide)) HZl.out (by simp [isAt, sl]) [31, 34] 2 rfl (by decide) (by decide) (fun g1 c1 => held2 34 31 g1 c1 _ _ zs _ 0 _ false true _ _ (by decide)) ax11
  have HAb11 : Hid (Below w10.heap.size w10 (w10.alloc (.cells #[.int .i64 31, .int .i64 34] 3))) := ab11
  clear ax11 ab11
  go_wp2_with fail
  refine Calls.mono cL11 ?_
  rintro e w11 ⟨rfl, hl11⟩
  obtain ⟨g11, c11, hs11, hu11⟩ := hl11
  have HB11 : Hid (Below w.heap.size w w11) := (HB10.out.trans (HAb11.out.mono HB10.out.size)).trans (hu11.below HL.out.1 (Nat.le_trans HB10.out.size HAb11.out.size))
  have HS11 : Hid (CS w11 c v sg ((1 : Nat) : Int) [sl 34 g11 c11 zs 0 false true, sl 31 g3 c3 zs 1 false false] dg j gm S2 xs2 D2 1 (dats (fun _ => none) (isq ml)) F2) := hs11
  clear cL11 hs11 hu11 HS10 HB10 HAb11
  have cU := unpin_out HS11.out.cd (by simp) 30 (by simp [isAt, sl])
  go_wp2_with fail
  refine Calls.mono cU ?_
  rintro e w12 ⟨rfl, b12⟩
  have HB12 : Hid (Below w.heap.size w w12) := HB11.out.trans (b12.mono HB11.out.size)
  clear cU b12 HS11 HB11
  go_wp2_with fail
  go_ret
  exact ⟨rfl, HB12.out⟩
end Go.Proofs.YtnldkpckojhbhaaGreat.C

/-
  CacheNone: a cache that New did not make.
-/
namespace Go.Proofs.YtnldkpckojhbhaaGreat.C
open Go.RowKit
open Go.Proofs.YtnldkpckojhbhaaGreat.Dk (Box)
end Go.Proofs.YtnldkpckojhbhaaGreat.C

/-
  What a cache refuses; Unpin, Drop; a Commit of nothing.
-/
namespace Go.Proofs.YtnldkpckojhbhaaGreat.C
open Go.RowKit
open Go.Proofs.YtnldkpckojhbhaaGreat.Dk (Box DS RowB Upd)
set_option maxRecDepth 100000 in
theorem pin_out {w : World} {c v sg : Nat} {hand : Int} {L : List Sl} (h : CD w c v sg hand L) (h64 : L.length ≤ 64) (n : Int) (hno : L.findIdx? (isAt n) = none) :
    Calls Tryz.prog 62 #[.pointer (some ⟨c, 0, none⟩), .int .i64 n] w fun r w' => r = .returned (.int .i64 2) ∧ Below w.heap.size w w' := by
  have cH := held_none h h64 n hno
  clear h hno
  go_enter Tryz.func62, Tryz.ntmps62
  go_wp2_with fail
  refine Calls.mono cH ?_
  rintro r wu1 ⟨rfl, b1⟩
  clear cH
  go_wp2_with fail
  go_ret
  exact ⟨rfl, b1⟩
set_option maxRecDepth 100000 in
theorem drop_out {w : World} {c v sg : Nat} {hand : Int} {L : List Sl} (h : CD w c v sg hand L) (h64 : L.length ≤ 64) (n : Int) (hno : L.findIdx? (isAt n) = none) :
    Calls Tryz.prog 64 #[.pointer (some ⟨c, 0, none⟩), .int .i64 n] w fun r w' => r = .returned (.int .i64 2) ∧ Below w.heap.size w w' := by
  have cH := held_none h h64 n hno
  clear h hno
  go_enter Tryz.func64, Tryz.ntmps64
  go_wp2_with fail
  refine Calls.mono cH ?_
  rintro r wu1 ⟨rfl, b1⟩
  clear cH
  go_wp2_with fail
  go_ret
  exact ⟨rfl, b1⟩
set_option maxRecDepth 100000 in
theorem put_out {w : World} {c v sg : Nat} {hand : Int} {L : List Sl} (h : CD w c v sg hand L) (h64 : L.length ≤ 64) (n : Int) (a : Option Addr) (m cap : Nat) (hno : L.findIdx? (isAt n) = none) :
    Calls Tryz.prog 63 #[.pointer (some ⟨c, 0, none⟩), .int .i64 n, .slice a m cap] w fun r w' => r = .returned (.int .i64 2) ∧ Below w.heap.size w w' := by
  have cH := held_none h h64 n hno
  clear h hno
  go_enter Tryz.func63, Tryz.ntmps63
  go_wp2_with fail
  refine Calls.mono cH ?_
  rintro r wu1 ⟨rfl, b1⟩
  clear cH
  go_wp2_with fail
  go_ret
  exact ⟨rfl, b1⟩
set_option maxRecDepth 100000 in
theorem pin_full {w : World} {c v sg : Nat} {hand : Int} {L : List Sl} (h : CD w c v sg hand L) (h64 : L.length ≤ 64) (n : Int) (i : Nat) (hi : i < L.length) (hit' : L.findIdx? (isAt n) = some i) (p : Int) (hp : L[i].pins = p) (h1 : 1000 ≤ p) :
    Calls Tryz.prog 62 #[.pointer (some ⟨c, 0, none⟩), .int .i64 n] w fun r w' => r = .returned (.int .i64 5) ∧ Below w.heap.size w w' := by
  have cH := held_at h h64 n i hit'
  have HC : Hid (CD w c v sg hand L) := h
  clear h hit'
  go_enter Tryz.func62, Tryz.ntmps62
  go_wp2_with fail
  refine Calls.mono cH ?_
  rintro r wu1 ⟨rfl, b1⟩
  have s2 := ((HC.out.below b1).slot i hi).c2
  rw [hp] at s2
  clear hp
  have HB : Hid (Below w.heap.size w wu1) := b1
  clear cH b1
  go_wp2_with fail
  go_ret
  exact ⟨rfl, HB.out⟩
set_option maxRecDepth 100000 in
theorem unpin_zero {w : World} {c v sg : Nat} {hand : Int} {L : List Sl} (h : CD w c v sg hand L) (h64 : L.length ≤ 64) (n : Int) (i : Nat) (hi : i < L.length) (hit' : L.findIdx? (isAt n) = some i) (hp : L[i].pins = 0) :
    Calls Tryz.prog 66 #[.pointer (some ⟨c, 0, none⟩), .int .i64 n] w fun r w' => r = .returned (.int .i64 2) ∧ Below w.heap.size w w' := by
  have cH := held_at h h64 n i hit'
  have HC : Hid (CD w c v sg hand L) := h
  clear h hit'
  go_enter Tryz.func66, Tryz.ntmps66
  go_wp2_with fail
  refine Calls.mono cH ?_
  rintro r wu1 ⟨rfl, b1⟩
  have s2 := ((HC.out.below b1).slot i hi).c2
  rw [hp] at s2
  clear hp
  have HB : Hid (Below w.heap.size w wu1) := b1
  clear cH b1
  go_wp2_with fail
  go_ret
  exact ⟨rfl, HB.out⟩
set_option maxRecDepth 100000 in
theorem drop_busy {w : World} {c v sg : Nat} {hand : Int} {L : List Sl} (h : CD w c v sg hand L) (h64 : L.length ≤ 64) (n : Int) (i : Nat) (hi : i < L.length) (hit' : L.findIdx? (isAt n) = some i) (p : Int) (hp : L[i].pins = p) (h1 : 0 < p) :
    Calls Tryz.prog 64 #[.pointer (some ⟨c, 0, none⟩), .int .i64 n] w fun r w' => r = .returned (.int .i64 130) ∧ Below w.heap.size w w' := by
  have cH := held_at h h64 n i hit'
  have HC : Hid (CD w c v sg hand L) := h
  clear h hit'
  go_enter Tryz.func64, Tryz.ntmps64
  go_wp2_with fail
  refine Calls.mono cH ?_
  rintro r wu1 ⟨rfl, b1⟩
  have s2 := ((HC.out.below b1).slot i hi).c2
  rw [hp] at s2
  clear hp
  have HB : Hid (Below w.heap.size w wu1) := b1
  clear cH b1
  go_wp2_with fail
  go_ret
  exact ⟨rfl, HB.out⟩
set_option maxRecDepth 100000 in
theorem put_len {w : World} {c v sg : Nat} {hand : Int} {L : List Sl} (h : CD w c v sg hand L) (h64 : L.length ≤ 64) (n : Int) (a : Option Addr) (m cap : Nat) (i : Nat) (hi : i < L.length) (hit' : L.findIdx? (isAt n) = some i) (hm : m ≠ 4096) :
    Calls Tryz.prog 63 #[.pointer (some ⟨c, 0, none⟩), .int .i64 n, .slice a m cap] w fun r w' => r = .returned (.int .i64 2) ∧ Below w.heap.size w w' := by
  have cH := held_at h h64 n i hit'
  have HC : Hid (CD w c v sg hand L) := h
  clear h hit'
  go_enter Tryz.func63, Tryz.ntmps63
  go_wp2_with fail
  refine Calls.mono cH ?_
  rintro r wu1 ⟨rfl, b1⟩
  have s2 := ((HC.out.below b1).slot i hi).c2
  have hmb : ((m : Int) != 4096) = true := by simp; omega
  clear s2 hm
  have HB : Hid (Below w.heap.size w wu1) := b1
  clear cH b1
  go_wp2_with fail
  go_ret
  exact ⟨rfl, HB.out⟩
set_option maxRecDepth 100000 in
theorem unpin_ok {w : World} {c v sg : Nat} {hand : Int} {L : List Sl} (h : CD w c v sg hand L) (h64 : L.length ≤ 64) (n : Int) (i : Nat) (hi : i < L.length) (hit' : L.findIdx? (isAt n) = some i) (p : Int) (hp : L[i].pins = p) (h0 : 0 < p) (h1 : p ≤ 1000) :
    Calls Tryz.prog 66 #[.pointer (some ⟨c, 0, none⟩), .int .i64 n] w fun r w' => r = .returned (.int .i64 0) ∧ CD w' c v sg hand (L.set i { L[i] with pins := p - 1 }) ∧ Upd (fun i => i = sg) w w' := by
  have HC : Hid (CD w c v sg hand L) := h
  have cH := held_at h h64 n i hit'
  clear h hit'
  go_enter Tryz.func66, Tryz.ntmps66
  go_wp2_with fail
  refine Calls.mono cH ?_
  rintro r wu1 ⟨rfl, b1⟩
  have hC1 := HC.out.below b1
  have hP := hC1.cell i hi { L[i] with pins := p - 1 } 2 (by decide) (.int .i64 (p - 1)) rfl (fun g cc e => hC1.rows _ (List.getElem_mem hi) g cc e)
  have HP : Hid (CD (wu1.setCell ⟨sg, i * 5 + 2, none⟩ (.int .i64 (p - 1))) c v sg hand (L.set i { L[i] with pins := p - 1 })) := hP
  have u3 : Upd (fun i => i = sg) w wu1 := Dk.Upd.of_below b1
  have hu2 : Upd (fun i => i = sg) w (wu1.setCell ⟨sg, i * 5 + 2, none⟩ (.int .i64 (p - 1))) := u3.setCell (.inl rfl) _
  have HU2 : Hid (Upd (fun i => i = sg) w (wu1.setCell ⟨sg, i * 5 + 2, none⟩ (.int .i64 (p - 1)))) := hu2
  have fz := hC1.sl.frozen (i * 5 + 2)
  have s2 := (hC1.slot i hi).c2
  rw [hp] at s2
  have hpb : (p == 0) = false := by simp; omega
  have hwp : IntKind.i64.wrap (p - 1) = p - 1 := IntWalk.i64_in _ (by omega)
  clear cH b1 hC1 hP hu2 u3 hp
  go_wp2_with fail
  go_ret
  exact ⟨rfl, HP.out, HU2.out⟩
set_option maxRecDepth 100000 in
theorem commit_none {w : World} {c v sg : Nat} {hand : Int} {L : List Sl} (h : CD w c v sg hand L) (h64 : L.length ≤ 64) (h0 : gat (fun s => s.dirty) L = []) :
    Calls Tryz.prog 61 #[.pointer (some ⟨c, 0, none⟩)] w fun r w' => r = .returned (.tuple #[.int .i64 0, .int .i64 0]) ∧ Below w.heap.size w w' := by
  have cM := isMade_at h
  have cD := dirtyAll_at h h64
  have e0 : srt (gat (fun s => s.dirty) L) = [] := by rw [h0]; exact srt_of (List.Perm.refl _) List.Pairwise.nil
  rw [e0] at cD
  clear h e0 h0
  go_enter Tryz.func61, Tryz.ntmps61
  go_wp2_with fail
  refine Calls.mono cM ?_
  rintro e wx ⟨rfl, hwx⟩
  subst hwx
  clear cM
  go_wp2_with fail
  refine Calls.mono cD ?_
  rintro e w1 ⟨v1, rfl, o1, b1⟩
  obtain ⟨a1, c1, rfl⟩ : ∃ a c, v1 = .slice a 0 c := by
    rcases o1.2 with ⟨rfl, _⟩ | ⟨g, cap, cur, rfl, _⟩
    · exact ⟨_, _, rfl⟩
    · exact ⟨_, _, rfl⟩
  have HB1 : Hid (Below w.heap.size w w1) := b1
  have cI : Calls Tryz.prog 122 #[.pointer (some ⟨c, 0, none⟩), .slice a1 0 c1] w1 fun r w' => r = .returned (.slice none 0 0) ∧ w' = w1 := by
    clear cD o1 b1 HB1
    go_enter Tryz.func122, Tryz.ntmps122
    go_wp2_with fail
    go_loopw [5, 10] (fun v i u => v = .slice none 0 0 ∧ i = .int .i64 0 ∧ u = w1) (fun _ _ _ => 0)
    case atStart => exact ⟨rfl, rfl, rfl⟩
    case round =>
      obtain ⟨rfl, rfl, hu⟩ := hrel
      subst hu
      go_wp2_with fail
      go_ret
      exact ⟨rfl, rfl⟩
  clear cD o1 b1
  go_wp2_with fail
  refine Calls.mono cI ?_
  rintro e w2 ⟨rfl, hw2⟩
  subst hw2
  clear cI
  go_wp2_with fail
  go_ret2
  exact ⟨rfl, HB1.out⟩
end Go.Proofs.YtnldkpckojhbhaaGreat.C

/-
  New where it refuses; a Load whose Read errs; Drop; a Load into an empty slot, whose answer is a row of its own.
-/
namespace Go.Proofs.YtnldkpckojhbhaaGreat.C
open Go.RowKit
open Go.Proofs.YtnldkpckojhbhaaGreat.Dk (Box DS RowB Upd)
open Go.Proofs.YtnldkpckojhbhaaGreat.V (VW VWA vC vcells NoV layout_no ahead_at lookB)
theorem eqlL0 (u : World) : (binOp .eql 57 (.agg #[.int .i64 0, .int .i64 0, .int .i64 0, .int .i64 0, .int .i64 0, .int .i64 0, .int .i64 0]) (.agg #[.int .i64 0, .int .i64 0, .int .i64 0, .int .i64 0, .int .i64 0, .int .i64 0, .int .i64 0])).run Tryz.prog u = .ok (.bool true) u := by
  have h := La.eq23 u 0 0 0 0 0 0 0 0 0 0 0 0 0 0
  simp [La.same7] at h
  simp only [binOp]
  simp [Op.equal, Op.maxDepth, h]
set_option maxRecDepth 100000 in
theorem new_nil {w : World} {p : Option Addr} (h : NoV w p) (n : Int) : Calls Tryz.prog 59 #[.pointer p, .int .i64 n] w fun r w' => r = .returned (.tuple #[.pointer none, .int .i64 1]) ∧ Below w.heap.size w w' := by
  have cL := layout_no h
  have he := eqlL0
  clear h
  go_enter Tryz.func59, Tryz.ntmps59
  go_wp2_with fail
  refine Calls.mono cL ?_
  rintro r wu1 ⟨rfl, b1⟩
  have HB : Hid (Below w.heap.size w wu1) := b1
  clear cL b1
  go_wp2_with fail
  go_ret2
  exact ⟨rfl, HB.out⟩
set_option maxRecDepth 100000 in
theorem new_bad {w : World} {v dg j gm : Nat} {ep : Int} {br : Bool} (h : Box w v (vC v dg j gm ep br) 80) (n : Int) (hn : n < 1 ∨ 64 < n) : Calls Tryz.prog 59 #[.pointer (some ⟨v, 0, none⟩), .int .i64 n] w fun r w' => r = .returned (.tuple #[.pointer none, .int .i64 2]) ∧ Below w.heap.size w w' := by
  have cL := layout_at h
  have he := eqlL
  clear h
  by_cases h1 : n < 1
  · clear hn
    go_enter Tryz.func59, Tryz.ntmps59
    go_wp2_with fail
    refine Calls.mono cL ?_
    rintro r wu1 ⟨rfl, b1⟩
    have HB : Hid (Below w.heap.size w wu1) := b1
    clear cL b1
    go_wp2_with fail
    go_ret2
    exact ⟨rfl, HB.out⟩
  · have h2 : 64 < n := by omega
    clear hn
    go_enter Tryz.func59, Tryz.ntmps59
    go_wp2_with fail
    refine Calls.mono cL ?_
    rintro r wu1 ⟨rfl, b1⟩
    have HB : Hid (Below w.heap.size w wu1) := b1
    clear cL b1
    go_wp2_with fail
    go_ret2
    exact ⟨rfl, HB.out⟩
set_option maxRecDepth 100000 in
theorem drop_ok {w : World} {c v sg : Nat} {hand : Int} {L : List Sl} (h : CD w c v sg hand L) (h64 : L.length ≤ 64) (n : Int) (i : Nat) (hi : i < L.length) (hit' : L.findIdx? (isAt n) = some i) (hp : L[i].pins = 0) :
    Calls Tryz.prog 64 #[.pointer (some ⟨c, 0, none⟩), .int .i64 n] w fun r w' => r = .returned (.int .i64 0) ∧ CD w' c v sg hand (L.set i empty) ∧ Upd (fun i => i = sg) w w' := by
  have HC : Hid (CD w c v sg hand L) := h
  have cH := held_at h h64 n i hit'
  clear h hit'
  go_enter Tryz.func64, Tryz.ntmps64
  go_wp2_with fail
  refine Calls.mono cH ?_
  rintro r wu1 ⟨rfl, b1⟩
  have hC1 := HC.out.below b1
  have HP : Hid (CD (((((wu1.setCell ⟨sg, i * 5, none⟩ (.int .i64 0)).setCell ⟨sg, i * 5 + 1, none⟩ (.slice none 0 0)).setCell ⟨sg, i * 5 + 2, none⟩ (.int .i64 0)).setCell ⟨sg, i * 5 + 3, none⟩ (.bool false)).setCell ⟨sg, i * 5 + 4, none⟩ (.bool false)) c v sg hand (L.set i empty)) := hC1.put i hi empty (fun g cc e => by cases e)
  have u3 : Upd (fun i => i = sg) w wu1 := Dk.Upd.of_below b1
  have HU : Hid (Upd (fun i => i = sg) w (((((wu1.setCell ⟨sg, i * 5, none⟩ (.int .i64 0)).setCell ⟨sg, i * 5 + 1, none⟩ (.slice none 0 0)).setCell ⟨sg, i * 5 + 2, none⟩ (.int .i64 0)).setCell ⟨sg, i * 5 + 3, none⟩ (.bool false)).setCell ⟨sg, i * 5 + 4, none⟩ (.bool false))) := ((((u3.setCell (.inl rfl) _).setCell (.inl rfl) _).setCell (.inl rfl) _).setCell (.inl rfl) _).setCell (.inl rfl) _
  have fz0 := hC1.sl.frozen (i * 5)
  have fz1 := hC1.sl.frozen (i * 5 + 1)
  have fz2 := hC1.sl.frozen (i * 5 + 2)
  have fz3 := hC1.sl.frozen (i * 5 + 3)
  have fz4 := hC1.sl.frozen (i * 5 + 4)
  obtain ⟨s0, s1, s2, s3, s4⟩ := hC1.slot i hi
  rw [hp] at s2
  clear cH b1 hC1 u3 hp
  go_wp2_with fail
  go_ret
  exact ⟨rfl, HP.out, HU.out⟩
set_option maxRecDepth 100000 in
theorem load_err {w : World} {c v sg : Nat} {hand : Int} {L : List Sl} (h : CD w c v sg hand L) (h64 : L.length ≤ 64) (n : Int) (hno : L.findIdx? (isAt n) = none) (er : Int) (her : er ≠ 0)
    (cR : ∀ u, Below w.heap.size w u → Calls Tryz.prog 24 #[.pointer (some ⟨v, 0, none⟩), .int .i64 n] u fun r w' => r = .returned (.tuple #[.slice none 0 0, .int .i64 er]) ∧ Below u.heap.size u w') :
    Calls Tryz.prog 60 #[.pointer (some ⟨c, 0, none⟩), .int .i64 n] w fun r w' => r = .returned (.tuple #[.slice none 0 0, .int .i64 er]) ∧ Below w.heap.size w w' := by
  have HC : Hid (CD w c v sg hand L) := h
  have cM := isMade_at h
  have cF := find_at h h64 n
  unfold hit at cF
  rw [hno] at cF
  have HR : Hid (∀ u, Below w.heap.size w u → Calls Tryz.prog 24 #[.pointer (some ⟨v, 0, none⟩), .int .i64 n] u fun r w' => r = .returned (.tuple #[.slice none 0 0, .int .i64 er]) ∧ Below u.heap.size u w') := cR
  have hb : (er != 0) = true := by simpa using her
  clear h cR hno her
  go_enter Tryz.func60, Tryz.ntmps60
  go_wp2_with fail
  refine Calls.mono cM ?_
  rintro r w' ⟨rfl, rfl⟩
  clear cM
  go_wp2_with fail
  refine Calls.mono cF ?_
  rintro r wu1 ⟨rfl, b1⟩
  have HB1 : Hid (Below w.heap.size w wu1) := b1
  have d1 : wu1.cell? ⟨c, 1, none⟩ = some (.pointer (some ⟨v, 0, none⟩)) := (HC.out.below b1).box.cell 1
  have cR := HR.out wu1 b1
  clear cF b1
  go_wp2_with fail
  refine Calls.mono cR ?_
  rintro r wu2 ⟨rfl, b2⟩
  have HB2 : Hid (Below w.heap.size w wu2) := HB1.out.trans (b2.mono HB1.out.size)
  clear cR b2 d1
  go_wp2_with fail
  exact bodyPost_ret (v := .tuple #[.slice none 0 0, .int .i64 er]) (by simp [results, Tryz.results60, go_sem]) rfl ⟨rfl, HB2.out⟩
set_option maxRecDepth 100000 in
set_option maxHeartbeats 2000000 in
theorem load_new2 {w : World} {c v sg : Nat} {hand : Int} {L : List Sl} (h : CD w c v sg hand L) (h64 : L.length ≤ 64) (n : Int) (hno : L.findIdx? (isAt n) = none) (e : Nat) (he : L.findIdx? (fun s => s.row.isNone) = some e) (zs : List UInt8) (hz : zs.length = 4096)
    (cR : ∀ u, Below w.heap.size w u → Calls Tryz.prog 24 #[.pointer (some ⟨v, 0, none⟩), .int .i64 n] u fun r w' => ∃ g c, r = .returned (.tuple #[.slice (some ⟨g, 0, none⟩) 4096 c, .int .i64 0]) ∧ u.heap.size ≤ g ∧ RowB w' g c zs ∧ Below u.heap.size u w') :
    Calls Tryz.prog 60 #[.pointer (some ⟨c, 0, none⟩), .int .i64 n] w fun r w' => ∃ g' c' g1 c1, r = .returned (.tuple #[.slice (some ⟨g', 0, none⟩) 4096 c', .int .i64 0]) ∧ w.heap.size ≤ g' ∧ w.heap.size ≤ g1 ∧ g1 < g' ∧ RowB w' g' c' zs ∧ CD w' c v sg hand (L.set e ⟨n, some (g1, c1), zs, 0, false, true⟩) ∧ Upd (fun i => i = sg) w w' := by
  have HC : Hid (CD w c v sg hand L) := h
  have c1 := h.box.cell 1
  have cM := isMade_at h
  have cF := find_at h h64 n
  unfold hit at cF
  rw [hno] at cF
  have HR : Hid (∀ u, Below w.heap.size w u → Calls Tryz.prog 24 #[.pointer (some ⟨v, 0, none⟩), .int .i64 n] u fun r w' => ∃ g c, r = .returned (.tuple #[.slice (some ⟨g, 0, none⟩) 4096 c, .int .i64 0]) ∧ u.heap.size ≤ g ∧ RowB w' g c zs ∧ Below u.heap.size u w') := cR
  have HE : Hid (L.findIdx? (fun s => s.row.isNone) = some e) := he
  have HL : Hid (L.length ≤ 64) := h64
  clear h cR he hno h64 c1
  go_enter Tryz.func60, Tryz.ntmps60
  go_wp2_with fail
  refine Calls.mono cM ?_
  rintro r w' ⟨rfl, rfl⟩
  clear cM
  go_wp2_with fail
  refine Calls.mono cF ?_
  rintro r wu1 ⟨rfl, b1⟩
  have HB1 : Hid (Below w.heap.size w wu1) := b1
  have d1 : wu1.cell? ⟨c, 1, none⟩ = some (.pointer (some ⟨v, 0, none⟩)) := (HC.out.below b1).box.cell 1
  have cR := HR.out wu1 b1
  clear cF b1
  go_wp2_with fail
  refine Calls.mono cR ?_
  rintro r wu2 ⟨g1, k1, rfl, hg1, r1, b2⟩
  have HB2 : Hid (Below w.heap.size w wu2) := HB1.out.trans (b2.mono HB1.out.size)
  have HR2 : Hid (RowB wu2 g1 k1 zs) := r1
  have HG1 : Hid (w.heap.size ≤ g1) := Nat.le_trans HB1.out.size hg1
  have cM := room_empty (HC.out.below HB2.out) HL.out e HE.out
  clear cR r1 b2 hg1 d1
  go_wp2_with fail
  refine Calls.mono cM ?_
  rintro r wu3 ⟨rfl, b3⟩
  have HB3 : Hid (Below w.heap.size w wu3) := HB2.out.trans (b3.mono HB2.out.size)
  have HR3 : Hid (RowB wu3 g1 k1 zs) := HR2.out.same (b3.block g1 HR2.out.lt)
  have heL : e < L.length := (List.findIdx?_eq_some_iff_getElem.1 HE.out).1
  have hC3 := HC.out.below HB3.out
  have hP := hC3.put e heL ⟨n, some (g1, k1), zs, 0, false, true⟩ (fun g cc q => by
    injection q with q
    injection q with q1 q2
    subst q1 q2
    exact ⟨HR3.out, hz⟩)
  have HX : Hid (Box wu3 sg (slsC L).toArray 175) := hC3.sl
  have fz0 := hC3.sl.frozen (e * 5)
  have fz1 := hC3.sl.frozen (e * 5 + 1)
  have fz2 := hC3.sl.frozen (e * 5 + 2)
  have fz3 := hC3.sl.frozen (e * 5 + 3)
  have fz4 := hC3.sl.frozen (e * 5 + 4)
  obtain ⟨s0, s1, s2, s3, s4⟩ := hC3.slot e heL
  clear cM b3 HR2 hC3
  go_wp2_with fail
  obtain ⟨W4, hW4⟩ : ∃ W, W = (((((wu3.setCell ⟨sg, e * 5, none⟩ (.int .i64 n)).setCell ⟨sg, e * 5 + 1, none⟩ (.slice (some ⟨g1, 0, none⟩) 4096 k1)).setCell ⟨sg, e * 5 + 2, none⟩ (.int .i64 0)).setCell ⟨sg, e * 5 + 3, none⟩ (.bool false)).setCell ⟨sg, e * 5 + 4, none⟩ (.bool true)) := ⟨_, rfl⟩
  have hP4 : CD W4 c v sg hand (L.set e ⟨n, some (g1, k1), zs, 0, false, true⟩) := by rw [hW4]; exact hP
  have hk : ∀ b, b ≠ sg → W4.heap[b]? = wu3.heap[b]? := fun b hb => by
    rw [hW4]
    repeat rw [heap_setCell_other _ _ _ _ (by exact hb)]
  have hu4 : Upd (fun i => i = sg) w W4 := by
    have u3 : Upd (fun i => i = sg) w wu3 := Dk.Upd.of_below HB3.out
    rw [hW4]
    exact ((((u3.setCell (.inl rfl) _).setCell (.inl rfl) _).setCell (.inl rfl) _).setCell (.inl rfl) _).setCell (.inl rfl) _
  have HU : Hid (Upd (fun i => i = sg) w W4) := hu4
  have HP : Hid (CD W4 c v sg hand (L.set e ⟨n, some (g1, k1), zs, 0, false, true⟩)) := hP4
  have hgs : g1 ≠ sg := by
    obtain ⟨cur, hb, _⟩ := HR3.out
    exact Dk.Box.ne hb HX.out (by decide)
  have cC := Dk.clone_at k1 4096 ⟨g1, 0, none⟩ zs W4 hz (by decide) (by decide) (HR3.out.same (hk g1 hgs)).rd
  have HG1W : Hid (g1 < W4.heap.size) := (HR3.out.same (hk g1 hgs)).lt
  rw [← hW4]
  clear hW4 hP hP4 hu4 fz0 fz1 fz2 fz3 fz4 s0 s1 s2 s3 s4 hk
  refine Calls.mono cC ?_
  rintro r wu5 ⟨g', c', rfl, hg', r', b5⟩
  have HP5 : Hid (CD wu5 c v sg hand (L.set e ⟨n, some (g1, k1), zs, 0, false, true⟩)) := HP.out.below b5
  have HU5 : Hid (Upd (fun i => i = sg) w wu5) := HU.out.thenB b5
  have HR5 : Hid (RowB wu5 g' c' zs) := r'
  have HG5 : Hid (w.heap.size ≤ g') := Nat.le_trans HU.out.size hg'
  have HG6 : Hid (g1 < g') := Nat.lt_of_lt_of_le HG1W.out hg'
  clear cC r' b5 hg'
  go_wp2_with fail
  exact bodyPost_ret (v := .tuple #[.slice (some ⟨g', 0, none⟩) 4096 c', .int .i64 0]) (by simp [results, Tryz.results60, go_sem]) rfl ⟨g', c', g1, k1, rfl, HG5.out, HG1.out, HG6.out, HR5.out, HP5.out, HU5.out⟩
end Go.Proofs.YtnldkpckojhbhaaGreat.C

/-
  marks of cache's law.
-/
namespace Go.Proofs.YtnldkpckojhbhaaGreat.C
open Go.RowKit
open Go.Proofs.YtnldkpckojhbhaaGreat.Dk (Box DS RowB Upd nought)
open Go.Proofs.YtnldkpckojhbhaaGreat.V (VW VWA vC vcells Mq MayG dats f2 f2_zero)
def isr (ml : List UInt8) : List (Int × List UInt8) := [(31, ml)]
theorem isr_ok (ml : List UInt8) (h4 : ml.length = 4096) : MayG (isr ml) ∧ (∀ i ∈ isr ml, 18 ≤ i.1 ∧ i.1 ≤ 63) ∧ Rc.okGroup 2 1 (isr ml) := by
  have hlen : ∀ i ∈ isr ml, i.2.length = 4096 := fun i hi => by
    have e : i = (31, ml) := List.mem_singleton.1 hi
    rw [e]
    exact h4
  have hin : ∀ i ∈ isr ml, i.1 = 31 := fun i hi => by
    have e : i = (31, ml) := List.mem_singleton.1 hi
    rw [e]
  have hm : (isr ml).map (·.1) = [31] := rfl
  refine ⟨⟨Nat.le_refl _, (by show 1 ≤ 32; decide), hlen, by rw [hm]; decide, fun i hi => by rw [hin i hi]; rfl⟩, fun i hi => by rw [hin i hi]; decide, ?_, hlen⟩
  rw [hm]
  refine ⟨rfl, by decide, ?_⟩
  intro j h _
  match j, h with
  | 0, _ => simp
theorem full3 (a b d : Sl) (ha : a.row.isNone = false) (hb : b.row.isNone = false) (hd : d.row.isNone = false) : ∀ j (hj : j < [a, b, d].length), [a, b, d][j].row.isNone = false := fun j hj => by
  match j, hj with
  | 0, _ => exact ha
  | 1, _ => exact hb
  | 2, _ => exact hd
theorem rows_in {L L' : List Sl} (h : ∀ s ∈ L', s = empty ∨ ∃ s0 ∈ L, s0.row = s.row) : ∀ s ∈ L', ∀ g cc, s.row = some (g, cc) → ∃ s0 ∈ L, s0.row = some (g, cc) := fun s hs g cc e => by
  rcases h s hs with h1 | ⟨s0, h0, h1⟩
  · rw [h1] at e; cases e
  · exact ⟨s0, h0, h1.trans e⟩
theorem clock_d (g c g' c' g'' c'' : Nat) (zs : List UInt8) (x y z : Int) : clock (2 * 3) [sl x g c zs 0 false true, sl y g' c' zs 0 false true, sl z g'' c'' zs 0 false true] 0 = ([empty, sl y g' c' zs 0 false false, sl z g'' c'' zs 0 false false], 1, some 0) := by
  simp [clock, stays, sl]
theorem clock_e (g c g' c' g'' c'' : Nat) (zs zs' : List UInt8) (x y z : Int) : clock (2 * 3) [sl x g c zs 0 false true, sl y g' c' zs' 0 false true, sl z g'' c'' zs 0 false false] 1 = ([sl x g c zs 0 false true, sl y g' c' zs' 0 false false, empty], 0, some 2) := by
  simp [clock, stays, sl]
set_option maxRecDepth 100000 in
set_option maxHeartbeats 4000000 in
theorem marks_at (w : World) : Calls Tryz.prog 71 #[] w fun r w' => r = .returned (.bool true) ∧ Below w.heap.size w w' := by
  obtain ⟨zs, hzs⟩ : ∃ zs, zs = nought 4096 := ⟨_, rfl⟩
  have hzl : zs.length = 4096 := by rw [hzs]; exact Dk.nought_length 4096
  have hmk : ∀ u : World, (Instr.makeSlice 37 (.int .i64 4096) (.int .i64 4096)).run Tryz.prog u = .ok (.slice (some ⟨u.heap.size, 0, none⟩) 4096 4096) (u.alloc (.cells (Dk.bcs zs).toArray 5)) := fun u => by rw [hzs]; exact Dk.make_run 4096 (by decide) u
  have HZ : Hid (zs = nought 4096) := hzs
  have HZl : Hid (zs.length = 4096) := hzl
  clear hzs hzl
  have c0 := fresh_at 3 (by decide) (by decide) w
  go_enter Tryz.func71, Tryz.ntmps71
  go_wp2_with fail
  refine Calls.mono c0 ?_
  rintro r w1 ⟨dg, v, j, gm, F, D, c, sg, rfl, hC, f1, f2', n1, n2, n3, n4, lc, ls, hV, hM, hU, hFl, lv, lg, B1⟩
  have HS1 : Hid (CS w1 c v sg ((0 : Nat) : Int) [empty, empty, empty] dg j gm (J.opened 64 2 1 0) [] D 0 (fun _ => none) F) := ⟨hC, hV.wide _, fun i hi => by rcases hi with rfl | rfl; exact ⟨f2', n3, n4⟩; exact ⟨f1, n1, n2⟩, fun s hs g cc e => by simp [empty] at hs; rw [hs] at e; simp at e⟩
  have HB1 : Hid (Below w.heap.size w w1) := B1
  have HL : Hid ((∀ i, i = sg ∨ i = c → w.heap.size ≤ i) ∧ ∀ i, F i ∨ i = gm ∨ i = sg ∨ i = c → w.heap.size ≤ i) := ⟨fun i hi => by rcases hi with rfl | rfl; exact ls; exact lc, fun i hi => by rcases hi with hi | rfl | rfl | rfl; exact hFl i hi; exact lg; exact ls; exact lc⟩
  have HQ : Hid (Vq D zs) := ⟨hM.nb, hM.calm.1, by rw [hU]; simp, fun k h1 h2 => by rw [hM.at_ k (by omega), f2_zero k (by omega), HZ.out]⟩
  have HM : Hid (Mq D f2 24 ∧ D.uf = []) := ⟨hM, hU⟩
  clear c0 hC f1 f2' n1 n2 n3 n4 lc ls hV hM hU hFl lv lg B1
  have ax2 : Box (w1.alloc (.cells #[.int .i64 30] 3)) w1.heap.size (zcs [30]).toArray 3 := Box.new w1 #[.int .i64 30] 3
  have ab2 : Below w1.heap.size w1 (w1.alloc (.cells #[.int .i64 30] 3)) := (Below.refl _ _).alloc (Nat.le_refl _) _
  have cL2 := (HS1.out.below ab2).ldNew (by simp) HQ.out.nb HQ.out.gone (by have := HQ.out.uf; omega) 30 30 rfl (by decide) rfl zs (HQ.out.st 30 (by decide) (by decide)) HZl.out (by simp [isAt, empty]) 0 (by simp [empty, List.findIdx?_cons]) [30] 1 rfl (by decide) (by decide) (fun g1 c1 => srt_of (by simp [gat, empty]) (by simp)) ax2
  have HAb2 : Hid (Below w1.heap.size w1 (w1.alloc (.cells #[.int .i64 30] 3))) := ab2
  clear ax2 ab2
  go_wp2_with fail
  refine Calls.mono cL2 ?_
  rintro e w2 ⟨rfl, hl2⟩
  obtain ⟨g2, c2, hs2, hu2⟩ := hl2
  have HB2 : Hid (Below w.heap.size w w2) := (HB1.out.trans (HAb2.out.mono HB1.out.size)).trans (hu2.below HL.out.1 (Nat.le_trans HB1.out.size HAb2.out.size))
  have HS2 : Hid (CS w2 c v sg ((0 : Nat) : Int) [sl 30 g2 c2 zs 0 false true, empty, empty] dg j gm (J.opened 64 2 1 0) [] D 0 (fun _ => none) F) := hs2
  clear cL2 hs2 hu2 HS1 HB1 HAb2
  have ax3 : Box (w2.alloc (.cells #[.int .i64 30, .int .i64 31] 3)) w2.heap.size (zcs [30, 31]).toArray 3 := Box.new w2 #[.int .i64 30, .int .i64 31] 3
  have ab3 : Below w2.heap.size w2 (w2.alloc (.cells #[.int .i64 30, .int .i64 31] 3)) := (Below.refl _ _).alloc (Nat.le_refl _) _
  have cL3 := (HS2.out.below ab3).ldNew (by simp) HQ.out.nb HQ.out.gone (by have := HQ.out.uf; omega) 31 31 rfl (by decide) rfl zs (HQ.out.st 31 (by decide) (by decide)) HZl.out (by simp [isAt, empty, sl]) 1 (by simp [empty, sl, List.findIdx?_cons]) [30, 31] 2 rfl (by decide) (by decide) (fun g1 c1 => srt_of (by simp [gat, empty, sl]) (by simp)) ax3
  have HAb3 : Hid (Below w2.heap.size w2 (w2.alloc (.cells #[.int .i64 30, .int .i64 31] 3))) := ab3
  clear ax3 ab3
  go_wp2_with fail
  refine Calls.mono cL3 ?_
  rintro e w3 ⟨rfl, hl3⟩
  obtain ⟨g3, c3, hs3, hu3⟩ := hl3
  have HB3 : Hid (Below w.heap.size w w3) := (HB2.out.trans (HAb3.out.mono HB2.out.size)).trans (hu3.below HL.out.1 (Nat.le_trans HB2.out.size HAb3.out.size))
  have HS3 : Hid (CS w3 c v sg ((0 : Nat) : Int) [sl 30 g2 c2 zs 0 false true, sl 31 g3 c3 zs 0 false true, empty] dg j gm (J.opened 64 2 1 0) [] D 0 (fun _ => none) F) := hs3
  clear cL3 hs3 hu3 HS2 HB2 HAb3
  have ax4 : Box (w3.alloc (.cells #[.int .i64 30, .int .i64 31, .int .i64 32] 3)) w3.heap.size (zcs [30, 31, 32]).toArray 3 := Box.new w3 #[.int .i64 30, .int .i64 31, .int .i64 32] 3
  have ab4 : Below w3.heap.size w3 (w3.alloc (.cells #[.int .i64 30, .int .i64 31, .int .i64 32] 3)) := (Below.refl _ _).alloc (Nat.le_refl _) _
  have cL4 := (HS3.out.below ab4).ldNew (by simp) HQ.out.nb HQ.out.gone (by have := HQ.out.uf; omega) 32 32 rfl (by decide) rfl zs (HQ.out.st 32 (by decide) (by decide)) HZl.out (by simp [isAt, empty, sl]) 2 (by simp [empty, sl, List.findIdx?_cons]) [30, 31, 32] 3 rfl (by decide) (by decide) (fun g1 c1 => srt_of (by simp [gat, empty, sl]) (by simp)) ax4
  have HAb4 : Hid (Below w3.heap.size w3 (w3.alloc (.cells #[.int .i64 30, .int .i64 31, .int .i64 32] 3))) := ab4
  clear ax4 ab4
  go_wp2_with fail
  refine Calls.mono cL4 ?_
  rintro e w4 ⟨rfl, hl4⟩
  obtain ⟨g4, c4, hs4, hu4⟩ := hl4
  have HB4 : Hid (Below w.heap.size w w4) := (HB3.out.trans (HAb4.out.mono HB3.out.size)).trans (hu4.below HL.out.1 (Nat.le_trans HB3.out.size HAb4.out.size))
  have HS4 : Hid (CS w4 c v sg ((0 : Nat) : Int) [sl 30 g2 c2 zs 0 false true, sl 31 g3 c3 zs 0 false true, sl 32 g4 c4 zs 0 false true] dg j gm (J.opened 64 2 1 0) [] D 0 (fun _ => none) F) := hs4
  clear cL4 hs4 hu4 HS3 HB3 HAb4
  have ax5 : Box (w4.alloc (.cells #[.int .i64 31, .int .i64 32, .int .i64 33] 3)) w4.heap.size (zcs [31, 32, 33]).toArray 3 := Box.new w4 #[.int .i64 31, .int .i64 32, .int .i64 33] 3
  have ab5 : Below w4.heap.size w4 (w4.alloc (.cells #[.int .i64 31, .int .i64 32, .int .i64 33] 3)) := (Below.refl _ _).alloc (Nat.le_refl _) _
  have cL5 := (HS4.out.below ab5).ldClock 3 rfl (by decide) (by decide) (by decide) (full3 _ _ _ rfl rfl rfl) [empty, sl 31 g3 c3 zs 0 false false, sl 32 g4 c4 zs 0 false false] 1 0 (clock_d g2 c2 g3 c3 g4 c4 zs 30 31 32) (by simp) (by simp) (rows_in (by simp [sl, empty])) HQ.out.nb HQ.out.gone (by have := HQ.out.uf; omega) 33 33 rfl (by decide) (rfl) zs (HQ.out.st 33 (by decide) (by decide)) HZl.out (by simp [isAt, sl]) [31, 32, 33] 3 rfl (by decide) (by decide) (fun g1 c1 => srt_of (by simp [gat, sl]; decide) (by simp)) ax5
  have HAb5 : Hid (Below w4.heap.size w4 (w4.alloc (.cells #[.int .i64 31, .int .i64 32, .int .i64 33] 3))) := ab5
  clear ax5 ab5
  go_wp2_with fail
  refine Calls.mono cL5 ?_
  rintro e w5 ⟨rfl, hl5⟩
  obtain ⟨g5, c5, hs5, hu5⟩ := hl5
  have HB5 : Hid (Below w.heap.size w w5) := (HB4.out.trans (HAb5.out.mono HB4.out.size)).trans (hu5.below HL.out.1 (Nat.le_trans HB4.out.size HAb5.out.size))
  have HS5 : Hid (CS w5 c v sg ((1 : Nat) : Int) [sl 33 g5 c5 zs 0 false true, sl 31 g3 c3 zs 0 false false, sl 32 g4 c4 zs 0 false false] dg j gm (J.opened 64 2 1 0) [] D 0 (fun _ => none) F) := hs5
  clear cL5 hs5 hu5 HS4 HB4 HAb5
  have hx6 := Dk.Box.new w5 (Dk.bcs zs).toArray 5
  have hb6 := (Below.refl w5.heap.size w5).alloc (Nat.le_refl _) (.cells (Dk.bcs zs).toArray 5)
  have hr6 : Dk.Rd (w5.alloc (.cells (Dk.bcs zs).toArray 5)) (some ⟨w5.heap.size, 0, none⟩) zs := Dk.RowB.rd (Dk.RowB.own (show Dk.Own (w5.alloc (.cells (Dk.bcs zs).toArray 5)) w5.heap.size zs from hx6) (by rw [HZl.out]; unfold maxLen; decide))
  have hs6 := HS5.out.below hb6
  have cP6 := put_ok hs6.cd (by simp) 31 1 (by simp) (by simp [isAt, sl, List.findIdx?_cons]) ⟨w5.heap.size, 0, none⟩ 4096 zs HZl.out hr6
  have HS6 : Hid (CS (w5.alloc (.cells (Dk.bcs zs).toArray 5)) c v sg ((1 : Nat) : Int) [sl 33 g5 c5 zs 0 false true, sl 31 g3 c3 zs 0 false false, sl 32 g4 c4 zs 0 false false] dg j gm (J.opened 64 2 1 0) [] D 0 (fun _ => none) F) := hs6
  have HB6 : Hid (Below w.heap.size w (w5.alloc (.cells (Dk.bcs zs).toArray 5))) := HB5.out.trans (hb6.mono HB5.out.size)
  clear hx6 hb6 hr6 hs6 HS5 HB5
  go_wp2_with fail
  refine Calls.mono cP6 ?_
  rintro e w7 ⟨rfl, g7, c7, hg7, hC7, hU7⟩
  have HS7 : Hid (CS w7 c v sg ((1 : Nat) : Int) [sl 33 g5 c5 zs 0 false true, sl 31 g7 c7 zs 0 true true, sl 32 g4 c4 zs 0 false false] dg j gm (J.opened 64 2 1 0) [] D 0 (fun _ => none) F) := HS6.out.upd hC7 (upd_sg hU7) (fun s hs g cc e => by
    rcases List.mem_cons.1 hs with h1 | h1
    · exact .inl ⟨s, by rw [h1]; simp, e⟩
    rcases List.mem_cons.1 h1 with h1 | h1
    · rw [h1] at e
      have e2 : some (g7, c7) = some (g, cc) := e
      injection e2 with e2
      injection e2 with e3 e4
      exact .inr (by omega)
    · exact .inl ⟨s, by rw [List.mem_singleton.1 h1]; simp, e⟩)
  have HB7 : Hid (Below w.heap.size w w7) := HB6.out.trans ((upd_sg hU7).below HL.out.1 HB6.out.size)
  clear cP6 hC7 hU7 hg7 HS6 HB6
  have hit1 : [sl 33 g5 c5 zs 0 false true, sl 31 g7 c7 zs 0 true true, sl 32 g4 c4 zs 0 false false].findIdx? (isAt 31) = some 1 := by simp [isAt, sl, List.findIdx?_cons]
  have eI : imL [sl 33 g5 c5 zs 0 false true, sl 31 g7 c7 zs 0 true true, sl 32 g4 c4 zs 0 false false] [31] = isr zs := by
    simp only [imL, xOf, List.map_cons, List.map_nil, hit1]
    rfl
  have cC := commitC_at HS7.out (by simp) [31] (srt_of (by simp [gat, sl]) (by simp)) 1 rfl (by decide) (fun b hb => by
    have e : b = 31 := List.mem_singleton.1 hb
    rw [e]
    exact ⟨1, hit1⟩) (by rw [eI]; exact (isr_ok zs HZl.out).1) (by rw [eI]; exact (isr_ok zs HZl.out).2.1) (by decide) (by rw [eI]; exact (isr_ok zs HZl.out).2.2) rfl (by decide) rfl rfl (by decide) rfl HM.out.1.calm HM.out.1.nb (by rw [HM.out.2]; decide) (by have := HM.out.1.cnt; omega) (by decide) (by decide)
  rw [eI, show (J.opened 64 2 1 0).next = 1 by rfl] at cC
  clear eI hit1
  go_wp2_with fail
  refine Calls.mono cC ?_
  rintro e w8 ⟨rfl, F2, hs8, hF2, hU8⟩
  obtain ⟨D2, hD2⟩ : ∃ D2, D2 = J.grow D (J.opened 64 2 1 0).S.toNat (((J.opened 64 2 1 0).T + (J.opened 64 2 1 0).U) % (J.opened 64 2 1 0).S).toNat (Rc.putL (J.opened 64 2 1 0).epoch.toNat (1 : Int).toNat (isr zs)) (1 + 1) := ⟨_, rfl⟩
  obtain ⟨S2, xs2, hS2⟩ : ∃ S2 xs2, CS w8 c v sg ((1 : Nat) : Int) [sl 33 g5 c5 zs 0 false true, sl 31 g7 c7 zs 0 false true, sl 32 g4 c4 zs 0 false false] dg j gm S2 xs2 D2 1 (dats (fun _ => none) (isr zs)) F2 := ⟨_, _, by rw [hD2]; exact hs8⟩
  have HS8 : Hid (CS w8 c v sg ((1 : Nat) : Int) [sl 33 g5 c5 zs 0 false true, sl 31 g7 c7 zs 0 false true, sl 32 g4 c4 zs 0 false false] dg j gm S2 xs2 D2 1 (dats (fun _ => none) (isr zs)) F2) := hS2
  have HB8 : Hid (Below w.heap.size w w8) := HB7.out.trans (hU8.below HL.out.2 HB7.out.size)
  have HQ2 : Hid (Vq D2 zs) := by
    rw [hD2]
    refine ⟨HQ.out.nb, HQ.out.gone, ?_, fun k h1 h2 => ?_⟩
    · show (D.uf ++ J.wrs 16 0 (Rc.putL 2 1 (isr zs)) 2).length ≤ 1000
      rw [HM.out.2]
      generalize Rc.putL 2 1 (isr zs) = L
      simp [J.wrs]
    · have e : (J.grow D 16 0 (Rc.putL 2 1 (isr zs)) 2).stand k = D.stand k := J.grow_out D 16 0 _ k 2 (fun i hi => by omega)
      exact e.trans (HQ.out.st k h1 h2)
  clear cC hs8 hF2 hU8 hD2 hS2 HS7 HB7 HM
  have ax9 : Box (w8.alloc (.cells #[.int .i64 31, .int .i64 33, .int .i64 34] 3)) w8.heap.size (zcs [31, 33, 34]).toArray 3 := Box.new w8 #[.int .i64 31, .int .i64 33, .int .i64 34] 3
  have ab9 : Below w8.heap.size w8 (w8.alloc (.cells #[.int .i64 31, .int .i64 33, .int .i64 34] 3)) := (Below.refl _ _).alloc (Nat.le_refl _) _
  have cL9 := (HS8.out.below ab9).ldClock 3 rfl (by decide) (by decide) (by decide) (full3 _ _ _ rfl rfl rfl) [sl 33 g5 c5 zs 0 false true, sl 31 g7 c7 zs 0 false false, empty] 0 2 (clock_e g5 c5 g7 c7 g4 c4 zs zs 33 31 32) (by simp) (by simp) (rows_in (by simp [sl, empty])) HQ2.out.nb HQ2.out.gone (by have := HQ2.out.uf; omega) 34 34 rfl (by decide) (by simp [dats, isr]) zs (HQ2.out.st 34 (by decide) (by decide)) HZl.out (by simp [isAt, sl]) [31, 33, 34] 3 rfl (by decide) (by decide) (fun g1 c1 => srt_of (by simp [gat, sl]; decide) (by simp)) ax9
  have HAb9 : Hid (Below w8.heap.size w8 (w8.alloc (.cells #[.int .i64 31, .int .i64 33, .int .i64 34] 3))) := ab9
  clear ax9 ab9
  go_wp2_with fail
  refine Calls.mono cL9 ?_
  rintro e w9 ⟨rfl, hl9⟩
  obtain ⟨g9, c9, hs9, hu9⟩ := hl9
  have HB9 : Hid (Below w.heap.size w w9) := (HB8.out.trans (HAb9.out.mono HB8.out.size)).trans (hu9.below HL.out.1 (Nat.le_trans HB8.out.size HAb9.out.size))
  have HS9 : Hid (CS w9 c v sg ((0 : Nat) : Int) [sl 33 g5 c5 zs 0 false true, sl 31 g7 c7 zs 0 false false, sl 34 g9 c9 zs 0 false true] dg j gm S2 xs2 D2 1 (dats (fun _ => none) (isr zs)) F2) := hs9
  clear cL9 hs9 hu9 HS8 HB8 HAb9
  clear HS9
  go_wp2_with fail
  go_ret
  exact ⟨rfl, HB9.out⟩
end Go.Proofs.YtnldkpckojhbhaaGreat.C

/-
  A volume's Read of a block that the disk refuses: its error is handed on.
-/
namespace Go.Proofs.YtnldkpckojhbhaaGreat.V
open Go.RowKit
open Go.Proofs.YtnldkpckojhbhaaGreat.Dk (Box DS RowB Upd nought)

set_option maxRecDepth 100000 in
set_option maxHeartbeats 4000000 in
theorem read_out {A : Nat → Prop} {w : World} {v dg j gm : Nat} {ep : Int} {S : J.JS} {xs : List Int} {D : DS} {cn : Nat} {dat : Int → Option (List UInt8)} {F : Nat → Prop} (h : VWA A w v dg j gm ep false S xs D cn dat F) (n : Nat) (hn : n ≤ 100000) (hE : D.readE n ≠ 0) (hd : dat n = none) :
    Calls Tryz.prog 24 #[.pointer (some ⟨v, 0, none⟩), .int .i64 n] w fun r w' => r = .returned (.tuple #[.slice none 0 0, .int .i64 (D.readE n : Int)]) ∧ Below w.heap.size w w' := by
  obtain ⟨m, h1, h2⟩ := h
  have hk := h2 n
  rw [hd] at hk
  have hm : m n = none := hk
  have cA := ahead_at h1.box
  have c11 := (vcells h1.box).c11
  have c1 := (vcells h1.box).c1
  have hlook := lookB h1.map n (by simp [Lit.wf, IntKind.min, IntKind.max, IntKind.bits, IntKind.signed]; omega)
  rw [hm] at hlook
  have hlook2 : (Instr.lookup 78 (.map (some gm)) (.int .i64 (n : Int)) true).run Tryz.prog w = .ok (.tuple #[.slice none 0 0, .bool false]) w := hlook
  obtain ⟨Fd, hdk, _⟩ := h1.jd.disk
  have cR := Dk.read_bad hdk n hE
  clear h1 h2 hm hk hlook hdk
  go_enter Tryz.func24, Tryz.ntmps24
  go_wp2_with fail
  refine Calls.mono cA ?_
  rintro r w' ⟨rfl, rfl⟩
  clear cA
  go_wp2_with fail
  refine Calls.mono cR ?_
  rintro r u ⟨rfl, rfl⟩
  clear cR hlook2
  go_wp2_with fail
  exact bodyPost_ret (v := .tuple #[.slice none 0 0, .int .i64 (D.readE n : Int)]) (by simp [results, Tryz.results24, go_sem]) rfl ⟨rfl, Below.refl _ _⟩

end Go.Proofs.YtnldkpckojhbhaaGreat.V

/-
  A cache of one slot over its volume: what a call leaves.
-/
namespace Go.Proofs.YtnldkpckojhbhaaGreat.C
open Go.RowKit
open Go.Proofs.YtnldkpckojhbhaaGreat.Dk (Box DS RowB Upd Rd)
section
variable {w : World} {c v sg : Nat} {hand : Int} {b : Int} {g cc : Nat} {zs : List UInt8} {p : Int} {d m : Bool} {dg j gm : Nat} {S : J.JS} {xs : List Int} {D : DS} {cn : Nat} {dat : Int → Option (List UInt8)} {F : Nat → Prop}
theorem hitOne (b : Int) (g cc : Nat) (zs : List UInt8) (p : Int) (d m : Bool) : [sl b g cc zs p d m].findIdx? (isAt b) = some 0 := by simp [isAt, sl, List.findIdx?_cons]
theorem CS.pin1 (h : CS w c v sg hand [sl b g cc zs p d m] dg j gm S xs D cn dat F) (h0 : 0 ≤ p) (h1 : p < 1000) :
    Calls Tryz.prog 62 #[.pointer (some ⟨c, 0, none⟩), .int .i64 b] w fun r w' => r = .returned (.int .i64 0) ∧ CS w' c v sg hand [sl b g cc zs (p + 1) d m] dg j gm S xs D cn dat F ∧ Upd (fun i => i = sg ∨ i = c) w w' := by
  refine (pin_ok h.cd (by simp) b 0 (by simp) (hitOne b g cc zs p d m) p rfl h0 h1).mono ?_
  rintro r w' ⟨rfl, hC, hU⟩
  exact ⟨rfl, h.upd hC (upd_sg hU) (fun s hs g' c' e => .inl ⟨_, List.mem_singleton.2 rfl, by rw [List.mem_singleton.1 hs] at e; exact e⟩), upd_sg hU⟩
theorem CS.unpin1 (h : CS w c v sg hand [sl b g cc zs p d m] dg j gm S xs D cn dat F) (h0 : 0 < p) (h1 : p ≤ 1000) :
    Calls Tryz.prog 66 #[.pointer (some ⟨c, 0, none⟩), .int .i64 b] w fun r w' => r = .returned (.int .i64 0) ∧ CS w' c v sg hand [sl b g cc zs (p - 1) d m] dg j gm S xs D cn dat F ∧ Upd (fun i => i = sg ∨ i = c) w w' := by
  refine (unpin_ok h.cd (by simp) b 0 (by simp) (hitOne b g cc zs p d m) p rfl h0 h1).mono ?_
  rintro r w' ⟨rfl, hC, hU⟩
  exact ⟨rfl, h.upd hC (upd_sg hU) (fun s hs g' c' e => .inl ⟨_, List.mem_singleton.2 rfl, by rw [List.mem_singleton.1 hs] at e; exact e⟩), upd_sg hU⟩
theorem CS.put1 (h : CS w c v sg hand [sl b g cc zs p d m] dg j gm S xs D cn dat F) (a : Addr) (ca : Nat) (ys : List UInt8) (hy : ys.length = 4096) (hr : Rd w (some a) ys) :
    Calls Tryz.prog 63 #[.pointer (some ⟨c, 0, none⟩), .int .i64 b, .slice (some a) 4096 ca] w fun r w' => r = .returned (.int .i64 0) ∧ (∃ g' c', CS w' c v sg hand [sl b g' c' ys p true true] dg j gm S xs D cn dat F) ∧ Upd (fun i => i = sg ∨ i = c) w w' := by
  refine (put_ok h.cd (by simp) b 0 (by simp) (hitOne b g cc zs p d m) a ca ys hy hr).mono ?_
  rintro r w' ⟨rfl, g7, c7, hg7, hC, hU⟩
  refine ⟨rfl, ⟨g7, c7, h.upd hC (upd_sg hU) (fun s hs g' c' e => .inr ?_)⟩, upd_sg hU⟩
  rw [List.mem_singleton.1 hs] at e
  have e2 : some (g7, c7) = some (g', c') := e
  injection e2 with e2
  injection e2 with e3 e4
  omega
theorem CS.drop1 (h : CS w c v sg hand [sl b g cc zs 0 d m] dg j gm S xs D cn dat F) :
    Calls Tryz.prog 64 #[.pointer (some ⟨c, 0, none⟩), .int .i64 b] w fun r w' => r = .returned (.int .i64 0) ∧ CS w' c v sg hand [empty] dg j gm S xs D cn dat F ∧ Upd (fun i => i = sg ∨ i = c) w w' := by
  refine (drop_ok h.cd (by simp) b 0 (by simp) (hitOne b g cc zs 0 d m) rfl).mono ?_
  rintro r w' ⟨rfl, hC, hU⟩
  refine ⟨rfl, h.upd hC (upd_sg hU) (fun s hs g' c' e => ?_), upd_sg hU⟩
  rw [List.mem_singleton.1 hs] at e
  simp [empty] at e
theorem CS.load1 (h : CS w c v sg hand [sl b g cc zs p d m] dg j gm S xs D cn dat F) :
    Calls Tryz.prog 60 #[.pointer (some ⟨c, 0, none⟩), .int .i64 b] w fun r w' => ∃ g' c', r = .returned (.tuple #[.slice (some ⟨g', 0, none⟩) 4096 c', .int .i64 0]) ∧ w.heap.size ≤ g' ∧ RowB w' g' c' zs ∧ CS w' c v sg hand [sl b g cc zs p d true] dg j gm S xs D cn dat F ∧ Upd (fun i => i = sg ∨ i = c) w w' := by
  refine (load_held h.cd (by simp) b 0 (by simp) (hitOne b g cc zs p d m) g cc rfl).mono ?_
  rintro r w' ⟨g', c', rfl, hg, hR, hC, hU⟩
  exact ⟨g', c', rfl, hg, hR, h.upd hC (upd_sg hU) (fun s hs g' c' e => .inl ⟨_, List.mem_singleton.2 rfl, by rw [List.mem_singleton.1 hs] at e; exact e⟩), upd_sg hU⟩
end
end Go.Proofs.YtnldkpckojhbhaaGreat.C

/-
  A cache over its volume, behind writes into a block that is none of theirs.
-/
namespace Go.Proofs.YtnldkpckojhbhaaGreat.C
open Go.RowKit
open Go.Proofs.YtnldkpckojhbhaaGreat.Dk (Box DS RowB Upd)
open Go.Proofs.YtnldkpckojhbhaaGreat.V (VWA)
theorem CS.over {w w' : World} {c v sg : Nat} {hand : Int} {L : List Sl} {dg j gm : Nat} {S : J.JS} {xs : List Int} {D : DS} {cn : Nat} {F : Nat → Prop} (h : CS w c v sg hand L dg j gm S xs D cn (fun _ => none) F) (gx : Nat) (hu : ∀ i, i ≠ gx → w'.heap[i]? = w.heap[i]?) (hs : w.heap.size ≤ w'.heap.size) (h1 : gx ≠ c) (h2 : gx ≠ sg) (h3 : gx ≠ v) (h4 : gx ≠ gm) (h5 : ¬ F gx) (h6 : ∀ s ∈ L, ∀ g cc, s.row = some (g, cc) → g ≠ gx) : CS w' c v sg hand L dg j gm S xs D cn (fun _ => none) F := by
  have hV : VWA (fun i => i = gx) w v dg j gm 2 false S xs D cn (fun _ => none) F := by
    obtain ⟨m, a1, a2⟩ := h.vw
    exact ⟨m, a1, a2⟩
  have hV2 := hV.kept (u := w') (fun i _ hi => hu i hi) (fun i hi => by rw [hi]; exact ⟨h5, h3, h4⟩) hs
  refine ⟨⟨(hu c h1.symm).trans h.cd.box, (hu sg h2.symm).trans h.cd.sl, h.cd.ne, fun s hs' g cc e => ⟨(h.cd.rows s hs' g cc e).1.same (hu g (h6 s hs' g cc e)), (h.cd.rows s hs' g cc e).2⟩⟩, ?_, h.sep, h.row⟩
  obtain ⟨m, a1, a2⟩ := hV2
  exact ⟨m, a1, a2⟩
end Go.Proofs.YtnldkpckojhbhaaGreat.C

/-
  CacheNumbers' walk.
-/
namespace Go.Proofs.YtnldkpckojhbhaaGreat.C
open Go.RowKit
open Go.Proofs.YtnldkpckojhbhaaGreat.Dk (Box DS RowB Upd nought)
open Go.Proofs.YtnldkpckojhbhaaGreat.V (VW VWA vC vcells Mq MayG dats f2 f2_zero read_out)
theorem CS.vbox {w : World} {c v sg : Nat} {hand : Int} {L : List Sl} {dg j gm : Nat} {S : J.JS} {xs : List Int} {D : DS} {cn : Nat} {dat : Int → Option (List UInt8)} {F : Nat → Prop} (h : CS w c v sg hand L dg j gm S xs D cn dat F) : Box w v (vC v dg j gm 2 false) 80 := by
  obtain ⟨m, h1, _⟩ := h.vw
  exact h1.box
theorem CS.load70 {w : World} {c v sg : Nat} {hand : Int} {L : List Sl} {dg j gm : Nat} {S : J.JS} {xs : List Int} {D : DS} {cn : Nat} {F : Nat → Prop} (h : CS w c v sg hand L dg j gm S xs D cn (fun _ => none) F) (h64 : L.length ≤ 64) (hnb : D.nb = 64) (hno : L.findIdx? (isAt 64) = none) :
    Calls Tryz.prog 60 #[.pointer (some ⟨c, 0, none⟩), .int .i64 64] w fun r w' => r = .returned (.tuple #[.slice none 0 0, .int .i64 70]) ∧ Below w.heap.size w w' := by
  have e70 : D.readE 64 = 70 := by simp [DS.readE, DS.has, hnb]
  refine load_err h.cd h64 64 hno 70 (by decide) (fun u b => ?_)
  have := read_out (h.vw.below b) 64 (by decide) (by show D.readE 64 ≠ 0; rw [e70]; decide) rfl
  rw [show D.readE ((64 : Nat) : Int) = 70 from e70] at this
  exact this
theorem owns_slice {w : World} {B n : Nat} {v : Value} {l : List Value} (h : w.ownsRow B 3 1 v n l) : ∃ a c, v = .slice a n c := by
  rcases h.2 with ⟨rfl, rfl⟩ | ⟨g, cap, cur, rfl, _⟩
  · exact ⟨none, 0, rfl⟩
  · exact ⟨_, _, rfl⟩
theorem CS.load2 {w : World} {c v sg : Nat} {hand : Int} {dg j gm : Nat} {S : J.JS} {xs : List Int} {D : DS} {cn : Nat} {F : Nat → Prop} (h : CS w c v sg hand [empty] dg j gm S xs D cn (fun _ => none) F) (zs : List UInt8) (hzl : zs.length = 4096) (hQ : Vq D zs) :
    Calls Tryz.prog 60 #[.pointer (some ⟨c, 0, none⟩), .int .i64 30] w fun r w' => ∃ g' c' g1 c1, r = .returned (.tuple #[.slice (some ⟨g', 0, none⟩) 4096 c', .int .i64 0]) ∧ w.heap.size ≤ g' ∧ g1 < g' ∧ RowB w' g' c' zs ∧ CS w' c v sg hand [sl 30 g1 c1 zs 0 false true] dg j gm S xs D cn (fun _ => none) F ∧ Upd (fun i => i = sg ∨ i = c) w w' := by
  refine (load_new2 h.cd (by simp) 30 (by simp [isAt, empty]) 0 (by simp [empty, List.findIdx?_cons]) zs hzl (h.readZ hQ.nb hQ.gone (by have := hQ.uf; omega) 30 (by decide) rfl zs (hQ.st 30 (by decide) (by decide)))).mono ?_
  rintro r w' ⟨g', c', g1, c1, rfl, l1, l2, l3, hR, hC, hU⟩
  refine ⟨g', c', g1, c1, rfl, l1, l3, hR, h.upd hC (upd_sg hU) (fun s hs g cc e => .inr ?_), upd_sg hU⟩
  rw [List.mem_singleton.1 hs] at e
  have e2 : some (g1, c1) = some (g, cc) := e
  injection e2 with e2
  injection e2 with e3 e4
  omega
set_option maxRecDepth 100000 in
set_option maxHeartbeats 4000000 in
theorem numbers_at (w : World) : Calls Tryz.prog 10 #[] w fun r w' => r = .returned (.bool true) ∧ Below w.heap.size w w' := by
  obtain ⟨zs, hzs⟩ : ∃ zs, zs = nought 4096 := ⟨_, rfl⟩
  have hzl : zs.length = 4096 := by rw [hzs]; exact Dk.nought_length 4096
  have hmk : ∀ u : World, (Instr.makeSlice 37 (.int .i64 4096) (.int .i64 4096)).run Tryz.prog u = .ok (.slice (some ⟨u.heap.size, 0, none⟩) 4096 4096) (u.alloc (.cells (Dk.bcs zs).toArray 5)) := fun u => by rw [hzs]; exact Dk.make_run 4096 (by decide) u
  have HZ : Hid (zs = nought 4096) := hzs
  have HZl : Hid (zs.length = 4096) := hzl
  clear hzs hzl
  have c0 := fresh_at 1 (by decide) (by decide) w
  go_enter Tryz.func10, Tryz.ntmps10
  go_wp2_with fail
  refine Calls.mono c0 ?_
  rintro r w1 ⟨dg, v, j, gm, F, D, c, sg, rfl, hC, f1, f2', n1, n2, n3, n4, lc, ls, hV, hM, hU, hFl, lv, lg, B1⟩
  have HS1 : Hid (CS w1 c v sg ((0 : Nat) : Int) [empty] dg j gm (J.opened 64 2 1 0) [] D 0 (fun _ => none) F) := ⟨hC, hV.wide _, fun i hi => by rcases hi with rfl | rfl; exact ⟨f2', n3, n4⟩; exact ⟨f1, n1, n2⟩, fun s hs g cc e => by simp [empty] at hs; rw [hs] at e; simp at e⟩
  have HB1 : Hid (Below w.heap.size w w1) := B1
  have HL : Hid ((∀ i, i = sg ∨ i = c → w.heap.size ≤ i) ∧ ∀ i, F i ∨ i = gm ∨ i = sg ∨ i = c → w.heap.size ≤ i) := ⟨fun i hi => by rcases hi with rfl | rfl; exact ls; exact lc, fun i hi => by rcases hi with hi | rfl | rfl | rfl; exact hFl i hi; exact lg; exact ls; exact lc⟩
  have HQ : Hid (Vq D zs) := ⟨hM.nb, hM.calm.1, by rw [hU]; simp, fun k h1 h2 => by rw [hM.at_ k (by omega), f2_zero k (by omega), HZ.out]⟩
  clear c0 hC f1 f2' n1 n2 n3 n4 lc ls hV hM hU hFl lv lg B1
  have E0 : Hid ([empty].findIdx? (isAt 30) = none ∧ [empty].findIdx? (isAt 64) = none ∧ gat (fun s => s.dirty) [empty] = []) := by
    refine ⟨?_, ?_, ?_⟩ <;> simp [isAt, empty, gat]
  have cc := new_nil (w := w1) (p := none) (.inl rfl) 1
  go_wp2_with fail
  refine Calls.mono cc ?_
  rintro r w2 ⟨rfl, b⟩
  clear cc
  have HB2 : Hid (Below w.heap.size w w2) := HB1.out.trans (b.mono HB1.out.size)
  have HS2 : Hid (CS w2 c v sg ((0 : Nat) : Int) [empty] dg j gm (J.opened 64 2 1 0) [] D 0 (fun _ => none) F) := HS1.out.below b
  clear b HS1 HB1
  have cc := new_bad HS2.out.vbox 0 (.inl (by decide))
  go_wp2_with fail
  refine Calls.mono cc ?_
  rintro r w3 ⟨rfl, b⟩
  clear cc
  have HB3 : Hid (Below w.heap.size w w3) := HB2.out.trans (b.mono HB2.out.size)
  have HS3 : Hid (CS w3 c v sg ((0 : Nat) : Int) [empty] dg j gm (J.opened 64 2 1 0) [] D 0 (fun _ => none) F) := HS2.out.below b
  clear b HS2 HB2
  have cc := new_bad HS3.out.vbox 65 (.inr (by decide))
  go_wp2_with fail
  refine Calls.mono cc ?_
  rintro r w4 ⟨rfl, b⟩
  clear cc
  have HB4 : Hid (Below w.heap.size w w4) := HB3.out.trans (b.mono HB3.out.size)
  have HS4 : Hid (CS w4 c v sg ((0 : Nat) : Int) [empty] dg j gm (J.opened 64 2 1 0) [] D 0 (fun _ => none) F) := HS3.out.below b
  clear b HS3 HB3
  have cc := new_at HS4.out.vbox 64 (by decide) (by decide)
  go_wp2_with fail
  refine Calls.mono cc ?_
  rintro r w5 ⟨cN, sN, rfl, _, _, _, _, _, b⟩
  clear cc
  have HB5 : Hid (Below w.heap.size w w5) := HB4.out.trans (b.mono HB4.out.size)
  have HS5 : Hid (CS w5 c v sg ((0 : Nat) : Int) [empty] dg j gm (J.opened 64 2 1 0) [] D 0 (fun _ => none) F) := HS4.out.below b
  clear b HS4 HB4
  have cc := HS5.out.load70 (by simp) HQ.out.nb E0.out.2.1
  go_wp2_with fail
  refine Calls.mono cc ?_
  rintro r w6 ⟨rfl, b⟩
  clear cc
  have HB6 : Hid (Below w.heap.size w w6) := HB5.out.trans (b.mono HB5.out.size)
  have HS6 : Hid (CS w6 c v sg ((0 : Nat) : Int) [empty] dg j gm (J.opened 64 2 1 0) [] D 0 (fun _ => none) F) := HS5.out.below b
  clear b HS5 HB5
  have cc := commit_none HS6.out.cd (by simp) E0.out.2.2
  go_wp2_with fail
  refine Calls.mono cc ?_
  rintro r w7 ⟨rfl, b⟩
  clear cc
  have HB7 : Hid (Below w.heap.size w w7) := HB6.out.trans (b.mono HB6.out.size)
  have HS7 : Hid (CS w7 c v sg ((0 : Nat) : Int) [empty] dg j gm (J.opened 64 2 1 0) [] D 0 (fun _ => none) F) := HS6.out.below b
  clear b HS6 HB6
  have cc := pin_out HS7.out.cd (by simp) 30 E0.out.1
  go_wp2_with fail
  refine Calls.mono cc ?_
  rintro r w8 ⟨rfl, b⟩
  clear cc
  have HB8 : Hid (Below w.heap.size w w8) := HB7.out.trans (b.mono HB7.out.size)
  have HS8 : Hid (CS w8 c v sg ((0 : Nat) : Int) [empty] dg j gm (J.opened 64 2 1 0) [] D 0 (fun _ => none) F) := HS7.out.below b
  clear b HS7 HB7
  have ab := (Below.refl w8.heap.size w8).alloc (Nat.le_refl _) (.cells (Dk.bcs zs).toArray 5)
  have HA : Hid (Below w8.heap.size w8 (w8.alloc (.cells (Dk.bcs zs).toArray 5))) := ab
  clear ab
  have cc := put_out (HS8.out.below HA.out).cd (by simp) 30 (some ⟨w8.heap.size, 0, none⟩) 4096 4096 E0.out.1
  go_wp2_with fail
  refine Calls.mono cc ?_
  rintro r w9 ⟨rfl, b⟩
  clear cc
  have HB9 : Hid (Below w.heap.size w w9) := HB8.out.trans ((HA.out.trans (b.mono HA.out.size)).mono HB8.out.size)
  have HS9 : Hid (CS w9 c v sg ((0 : Nat) : Int) [empty] dg j gm (J.opened 64 2 1 0) [] D 0 (fun _ => none) F) := (HS8.out.below HA.out).below b
  clear b HS8 HB8 HA
  have cc := drop_out HS9.out.cd (by simp) 30 E0.out.1
  go_wp2_with fail
  refine Calls.mono cc ?_
  rintro r w10 ⟨rfl, b⟩
  clear cc
  have HB10 : Hid (Below w.heap.size w w10) := HB9.out.trans (b.mono HB9.out.size)
  have HS10 : Hid (CS w10 c v sg ((0 : Nat) : Int) [empty] dg j gm (J.opened 64 2 1 0) [] D 0 (fun _ => none) F) := HS9.out.below b
  clear b HS9 HB9
  have ab := (Below.refl w10.heap.size w10).alloc (Nat.le_refl _) (.cells #[.int .i64 30] 3)
  have HA : Hid (Below w10.heap.size w10 (w10.alloc (.cells #[.int .i64 30] 3))) := ab
  clear ab
  have ax : Box (w10.alloc (.cells #[.int .i64 30] 3)) w10.heap.size (zcs [30]).toArray 3 := Box.new w10 #[.int .i64 30] 3
  have cc := (HS10.out.below HA.out).ldNew (by simp) HQ.out.nb HQ.out.gone (by have := HQ.out.uf; omega) 30 30 rfl (by decide) rfl zs (HQ.out.st 30 (by decide) (by decide)) HZl.out E0.out.1 0 (by simp [empty, List.findIdx?_cons]) [30] 1 rfl (by decide) (by decide) (fun g1 c1 => srt_of (by simp [gat]) (by simp)) ax
  clear ax
  go_wp2_with fail
  refine Calls.mono cc ?_
  rintro r w11 ⟨rfl, g2, c2, hs, hu⟩
  clear cc
  have HB11 : Hid (Below w.heap.size w w11) := (HB10.out.trans (HA.out.mono HB10.out.size)).trans (hu.below HL.out.1 (Nat.le_trans HB10.out.size HA.out.size))
  have HS11 : Hid (CS w11 c v sg ((0 : Nat) : Int) [sl 30 g2 c2 zs 0 false true] dg j gm (J.opened 64 2 1 0) [] D 0 (fun _ => none) F) := hs
  clear hs hu HS10 HB10 HA
  have cc := put_len HS11.out.cd (by simp) 30 none 0 0 0 (by simp) (hitOne 30 g2 c2 zs 0 false true) (by decide)
  go_wp2_with fail
  refine Calls.mono cc ?_
  rintro r w12 ⟨rfl, b⟩
  clear cc
  have HB12 : Hid (Below w.heap.size w w12) := HB11.out.trans (b.mono HB11.out.size)
  have HS12 : Hid (CS w12 c v sg ((0 : Nat) : Int) [sl 30 g2 c2 zs 0 false true] dg j gm (J.opened 64 2 1 0) [] D 0 (fun _ => none) F) := HS11.out.below b
  clear b HS11 HB11
  have cc := unpin_zero HS12.out.cd (by simp) 30 0 (by simp) (hitOne 30 g2 c2 zs 0 false true) rfl
  go_wp2_with fail
  refine Calls.mono cc ?_
  rintro r w13 ⟨rfl, b⟩
  clear cc
  have HB13 : Hid (Below w.heap.size w w13) := HB12.out.trans (b.mono HB12.out.size)
  have HS13 : Hid (CS w13 c v sg ((0 : Nat) : Int) [sl 30 g2 c2 zs 0 false true] dg j gm (J.opened 64 2 1 0) [] D 0 (fun _ => none) F) := HS12.out.below b
  clear b HS12 HB12
  go_wp2_with fail
  go_loopw [18] (fun i wr => ∃ k : Nat, k ≤ 1000 ∧ i = .int .i64 (k : Int) ∧ Below w.heap.size w wr ∧ CS wr c v sg ((0 : Nat) : Int) [sl 30 g2 c2 zs (k : Int) false true] dg j gm (J.opened 64 2 1 0) [] D 0 (fun _ => none) F) (fun i _ => 1000 - (intOf i).toNat)
  case atStart => exact ⟨0, by omega, rfl, HB13.out, HS13.out⟩
  case round =>
    obtain ⟨k, hk, rfl, B, hS⟩ := hrel
    have HB : Hid (Below w.heap.size w wr) := B
    have HS : Hid (CS wr c v sg ((0 : Nat) : Int) [sl 30 g2 c2 zs (k : Int) false true] dg j gm (J.opened 64 2 1 0) [] D 0 (fun _ => none) F) := hS
    clear B hS HB13 HS13
    by_cases hlt : k < 1000
    · have hki : (k : Int) < 1000 := by omega
      have cc := HS.out.pin1 (by omega) hki
      go_wp2_with fail
      refine Calls.mono cc ?_
      rintro r wv ⟨rfl, hs, hu⟩
      clear cc
      have HB' : Hid (Below w.heap.size w wv) := HB.out.trans (hu.below HL.out.1 HB.out.size)
      have HS' : Hid (CS wv c v sg ((0 : Nat) : Int) [sl 30 g2 c2 zs ((k : Int) + 1) false true] dg j gm (J.opened 64 2 1 0) [] D 0 (fun _ => none) F) := hs
      clear hs hu
      go_wp2_with fail
      go_roundw
      case rel => exact ⟨k + 1, by omega, by push_cast; rfl, HB'.out, HS'.out⟩
      case measure => simp [intOf]; omega
    · obtain rfl : k = 1000 := by omega
      have cc := pin_full HS.out.cd (by simp) 30 0 (by simp) (hitOne 30 g2 c2 zs ((1000 : Nat) : Int) false true) ((1000 : Nat) : Int) rfl (by decide)
      go_wp2_with fail
      refine Calls.mono cc ?_
      rintro r x1 ⟨rfl, b⟩
      clear cc
      have HB' : Hid (Below w.heap.size w x1) := HB.out.trans (b.mono HB.out.size)
      have HS' : Hid (CS x1 c v sg ((0 : Nat) : Int) [sl 30 g2 c2 zs ((1000 : Nat) : Int) false true] dg j gm (J.opened 64 2 1 0) [] D 0 (fun _ => none) F) := HS.out.below b
      clear b HS HB
      rename Hid (Below w.heap.size w x1) => HB
      rename Hid (CS x1 c v sg ((0 : Nat) : Int) [sl 30 g2 c2 zs ((1000 : Nat) : Int) false true] dg j gm (J.opened 64 2 1 0) [] D 0 (fun _ => none) F) => HS
      have cc := drop_busy HS.out.cd (by simp) 30 0 (by simp) (hitOne 30 g2 c2 zs ((1000 : Nat) : Int) false true) ((1000 : Nat) : Int) rfl (by decide)
      go_wp2_with fail
      refine Calls.mono cc ?_
      rintro r x2 ⟨rfl, b⟩
      clear cc
      have HB' : Hid (Below w.heap.size w x2) := HB.out.trans (b.mono HB.out.size)
      have HS' : Hid (CS x2 c v sg ((0 : Nat) : Int) [sl 30 g2 c2 zs ((1000 : Nat) : Int) false true] dg j gm (J.opened 64 2 1 0) [] D 0 (fun _ => none) F) := HS.out.below b
      clear b HS HB
      rename Hid (Below w.heap.size w x2) => HB
      rename Hid (CS x2 c v sg ((0 : Nat) : Int) [sl 30 g2 c2 zs ((1000 : Nat) : Int) false true] dg j gm (J.opened 64 2 1 0) [] D 0 (fun _ => none) F) => HS
      have cc := pinnedAll_at HS.out.cd (by simp)
      rw [show srt (gat (fun s => decide (0 < s.pins)) [sl 30 g2 c2 zs ((1000 : Nat) : Int) false true]) = [30] from srt_of (by simp [gat, sl]) (by simp)] at cc
      go_wp2_with fail
      refine Calls.mono cc ?_
      rintro r x3 ⟨v2, rfl, o2, b⟩
      clear cc
      obtain ⟨gq, cq, rfl, hcq⟩ := owns_at o2 (by decide)
      have HB' : Hid (Below w.heap.size w x3) := HB.out.trans (b.mono HB.out.size)
      have HS' : Hid (CS x3 c v sg ((0 : Nat) : Int) [sl 30 g2 c2 zs ((1000 : Nat) : Int) false true] dg j gm (J.opened 64 2 1 0) [] D 0 (fun _ => none) F) := HS.out.below b
      have ab := (Below.refl x3.heap.size x3).alloc (Nat.le_refl _) (.cells #[.int .i64 30] 3)
      have hq1 : ∀ j (hj : j < [(30 : Int)].length), (x3.alloc (.cells #[.int .i64 30] 3)).cell? ⟨gq, 0 + j, none⟩ = some (.int .i64 [(30 : Int)][j]) := fun j hj => by
        rw [ab.cell (p := ⟨gq, 0 + j, none⟩) (block_lt_of_cell (hcq j hj))]; exact hcq j hj
      have hq2 : ∀ j (hj : j < [(30 : Int)].length), (x3.alloc (.cells #[.int .i64 30] 3)).cell? ⟨x3.heap.size, 0 + j, none⟩ = some (.int .i64 [(30 : Int)][j]) := fun j hj => by
        match j, hj with
        | 0, _ => exact (Box.new x3 #[.int .i64 30] 3).cell 0
      have cS := Dk.sameInts_self 1 cq 1 gq 0 x3.heap.size 0 [30] (x3.alloc (.cells #[.int .i64 30] 3)) rfl (by decide) hq1 hq2
      have HA : Hid (Below x3.heap.size x3 (x3.alloc (.cells #[.int .i64 30] 3))) := ab
      clear o2 b hcq ab hq1 hq2 HS HB
      go_wp2_with fail
      refine Calls.mono cS ?_
      rintro r x4 ⟨rfl, b⟩
      clear cS
      have HB : Hid (Below w.heap.size w x4) := HB'.out.trans ((HA.out.trans (b.mono HA.out.size)).mono HB'.out.size)
      have HS : Hid (CS x4 c v sg ((0 : Nat) : Int) [sl 30 g2 c2 zs ((1000 : Nat) : Int) false true] dg j gm (J.opened 64 2 1 0) [] D 0 (fun _ => none) F) := (HS'.out.below HA.out).below b
      clear b HA HB' HS'
      go_wp2_with fail
      go_loopw [20] (fun i wq => ∃ k : Nat, k ≤ 1000 ∧ i = .int .i64 (k : Int) ∧ Below w.heap.size w wq ∧ CS wq c v sg ((0 : Nat) : Int) [sl 30 g2 c2 zs (1000 - (k : Int)) false true] dg j gm (J.opened 64 2 1 0) [] D 0 (fun _ => none) F) (fun i _ => 1000 - (intOf i).toNat)
      case atStart => exact ⟨0, by omega, rfl, HB.out, HS.out⟩
      case round =>
        obtain ⟨k, hk, rfl, B, hS⟩ := hrel
        clear HB HS
        have HB : Hid (Below w.heap.size w wr) := B
        have HS : Hid (CS wr c v sg ((0 : Nat) : Int) [sl 30 g2 c2 zs (1000 - (k : Int)) false true] dg j gm (J.opened 64 2 1 0) [] D 0 (fun _ => none) F) := hS
        clear B hS
        by_cases hlt : k < 1000
        · have hki : (k : Int) < 1000 := by omega
          have cc := HS.out.unpin1 (by omega) (by omega)
          go_wp2_with fail
          refine Calls.mono cc ?_
          rintro r wv ⟨rfl, hs, hu⟩
          clear cc
          have HB' : Hid (Below w.heap.size w wv) := HB.out.trans (hu.below HL.out.1 HB.out.size)
          have HS' : Hid (CS wv c v sg ((0 : Nat) : Int) [sl 30 g2 c2 zs (1000 - (k : Int) - 1) false true] dg j gm (J.opened 64 2 1 0) [] D 0 (fun _ => none) F) := hs
          clear hs hu
          go_wp2_with fail
          go_roundw
          case rel => exact ⟨k + 1, by omega, by push_cast; rfl, HB'.out, by have e : (1000 : Int) - ((k + 1 : Nat) : Int) = 1000 - (k : Int) - 1 := by omega
                                                                             rw [e]; exact HS'.out⟩
          case measure => simp [intOf]; omega
        · obtain rfl : k = 1000 := by omega
          have HS' : Hid (CS wr c v sg ((0 : Nat) : Int) [sl 30 g2 c2 zs 0 false true] dg j gm (J.opened 64 2 1 0) [] D 0 (fun _ => none) F) := HS.out
          clear HS
          rename Hid (CS wr c v sg ((0 : Nat) : Int) [sl 30 g2 c2 zs 0 false true] dg j gm (J.opened 64 2 1 0) [] D 0 (fun _ => none) F) => HS
          have cc := pinnedAll_at HS.out.cd (by simp)
          rw [show srt (gat (fun s => decide (0 < s.pins)) [sl 30 g2 c2 zs 0 false true]) = [] from srt_of (by simp [gat, sl]) (by simp)] at cc
          go_wp2_with fail
          refine Calls.mono cc ?_
          rintro r y1 ⟨v2, rfl, o2, b⟩
          clear cc
          obtain ⟨aq, cq, rfl⟩ : ∃ a c, v2 = .slice a 0 c := owns_slice o2
          have HB' : Hid (Below w.heap.size w y1) := HB.out.trans (b.mono HB.out.size)
          have HS' : Hid (CS y1 c v sg ((0 : Nat) : Int) [sl 30 g2 c2 zs 0 false true] dg j gm (J.opened 64 2 1 0) [] D 0 (fun _ => none) F) := HS.out.below b
          clear b o2 HS HB
          rename Hid (Below w.heap.size w y1) => HB
          rename Hid (CS y1 c v sg ((0 : Nat) : Int) [sl 30 g2 c2 zs 0 false true] dg j gm (J.opened 64 2 1 0) [] D 0 (fun _ => none) F) => HS
          obtain ⟨ml, hml⟩ : ∃ ml, ml = Rc.madeL 2 4096 := ⟨_, rfl⟩
          have cM : Calls Tryz.prog 21 #[.int .i64 2, .int .i64 4096] y1 fun e w' => e = .returned (.slice (some ⟨y1.heap.size, 0, none⟩) 4096 4096) ∧ Rc.Own w' y1.heap.size ml ∧ Below y1.heap.size y1 w' := by rw [hml]; exact Rc.made_at 2 4096 y1 (by decide)
          have HMl : Hid (ml.length = 4096) := by rw [hml]; exact Rc.madeK_length 2 4096 4096
          clear hml
          go_wp2_with fail
          refine Calls.mono cM ?_
          rintro r y2 ⟨rfl, om, b⟩
          clear cM
          have HB' : Hid (Below w.heap.size w y2) := HB.out.trans (b.mono HB.out.size)
          have HS' : Hid (CS y2 c v sg ((0 : Nat) : Int) [sl 30 g2 c2 zs 0 false true] dg j gm (J.opened 64 2 1 0) [] D 0 (fun _ => none) F) := HS.out.below b
          have cc := HS'.out.put1 ⟨y1.heap.size, 0, none⟩ 4096 ml HMl.out om.rd
          clear b om HS HB
          go_wp2_with fail
          refine Calls.mono cc ?_
          rintro r y3 ⟨rfl, ⟨g7, c7, hs⟩, hu⟩
          clear cc
          have HB : Hid (Below w.heap.size w y3) := HB'.out.trans (hu.below HL.out.1 HB'.out.size)
          have HS : Hid (CS y3 c v sg ((0 : Nat) : Int) [sl 30 g7 c7 ml 0 true true] dg j gm (J.opened 64 2 1 0) [] D 0 (fun _ => none) F) := hs
          clear hs hu HB' HS'
          have cc := dirtyAll_at HS.out.cd (by simp)
          rw [show srt (gat (fun s => s.dirty) [sl 30 g7 c7 ml 0 true true]) = [30] from srt_of (by simp [gat, sl]) (by simp)] at cc
          go_wp2_with fail
          refine Calls.mono cc ?_
          rintro r y4 ⟨v2, rfl, o2, b⟩
          clear cc
          obtain ⟨gq, cq, rfl, hcq⟩ := owns_at o2 (by decide)
          have HB' : Hid (Below w.heap.size w y4) := HB.out.trans (b.mono HB.out.size)
          have HS' : Hid (CS y4 c v sg ((0 : Nat) : Int) [sl 30 g7 c7 ml 0 true true] dg j gm (J.opened 64 2 1 0) [] D 0 (fun _ => none) F) := HS.out.below b
          have ab := (Below.refl y4.heap.size y4).alloc (Nat.le_refl _) (.cells #[.int .i64 30] 3)
          have hq1 : ∀ j (hj : j < [(30 : Int)].length), (y4.alloc (.cells #[.int .i64 30] 3)).cell? ⟨gq, 0 + j, none⟩ = some (.int .i64 [(30 : Int)][j]) := fun j hj => by
            rw [ab.cell (p := ⟨gq, 0 + j, none⟩) (block_lt_of_cell (hcq j hj))]; exact hcq j hj
          have hq2 : ∀ j (hj : j < [(30 : Int)].length), (y4.alloc (.cells #[.int .i64 30] 3)).cell? ⟨y4.heap.size, 0 + j, none⟩ = some (.int .i64 [(30 : Int)][j]) := fun j hj => by
            match j, hj with
            | 0, _ => exact (Box.new y4 #[.int .i64 30] 3).cell 0
          have cS := Dk.sameInts_self 1 cq 1 gq 0 y4.heap.size 0 [30] (y4.alloc (.cells #[.int .i64 30] 3)) rfl (by decide) hq1 hq2
          have HA : Hid (Below y4.heap.size y4 (y4.alloc (.cells #[.int .i64 30] 3))) := ab
          clear o2 b hcq ab hq1 hq2 HS HB
          go_wp2_with fail
          refine Calls.mono cS ?_
          rintro r y5 ⟨rfl, b⟩
          clear cS
          have HB : Hid (Below w.heap.size w y5) := HB'.out.trans ((HA.out.trans (b.mono HA.out.size)).mono HB'.out.size)
          have HS : Hid (CS y5 c v sg ((0 : Nat) : Int) [sl 30 g7 c7 ml 0 true true] dg j gm (J.opened 64 2 1 0) [] D 0 (fun _ => none) F) := (HS'.out.below HA.out).below b
          clear b HA HB' HS'
          have cc := HS.out.drop1
          go_wp2_with fail
          refine Calls.mono cc ?_
          rintro r y6 ⟨rfl, hs, hu⟩
          clear cc
          have HB' : Hid (Below w.heap.size w y6) := HB.out.trans (hu.below HL.out.1 HB.out.size)
          have HS' : Hid (CS y6 c v sg ((0 : Nat) : Int) [empty] dg j gm (J.opened 64 2 1 0) [] D 0 (fun _ => none) F) := hs
          clear hs hu HS HB
          rename Hid (Below w.heap.size w y6) => HB
          rename Hid (CS y6 c v sg ((0 : Nat) : Int) [empty] dg j gm (J.opened 64 2 1 0) [] D 0 (fun _ => none) F) => HS
          have cc := heldAll_at HS.out.cd (by simp)
          rw [show srt (gat (fun _ => true) [empty]) = [] from srt_of (by simp [gat, empty]) (by simp)] at cc
          go_wp2_with fail
          refine Calls.mono cc ?_
          rintro r y7 ⟨v2, rfl, o2, b⟩
          clear cc
          obtain ⟨aq, cq, rfl⟩ : ∃ a c, v2 = .slice a 0 c := owns_slice o2
          have HB' : Hid (Below w.heap.size w y7) := HB.out.trans (b.mono HB.out.size)
          have HS' : Hid (CS y7 c v sg ((0 : Nat) : Int) [empty] dg j gm (J.opened 64 2 1 0) [] D 0 (fun _ => none) F) := HS.out.below b
          clear b o2 HS HB
          rename Hid (Below w.heap.size w y7) => HB
          rename Hid (CS y7 c v sg ((0 : Nat) : Int) [empty] dg j gm (J.opened 64 2 1 0) [] D 0 (fun _ => none) F) => HS
          have cc := HS.out.load2 zs HZl.out HQ.out
          go_wp2_with fail
          refine Calls.mono cc ?_
          rintro r y8 ⟨gx, cx, g8, c8, rfl, lx, l8, hR, hs, hu⟩
          clear cc
          have HB' : Hid (Below w.heap.size w y8) := HB.out.trans (hu.below HL.out.1 HB.out.size)
          have HS' : Hid (CS y8 c v sg ((0 : Nat) : Int) [sl 30 g8 c8 zs 0 false true] dg j gm (J.opened 64 2 1 0) [] D 0 (fun _ => none) F) := hs
          have HX : Hid (y7.heap.size ≤ gx ∧ g8 < gx ∧ RowB y8 gx cx zs ∧ CS y7 c v sg ((0 : Nat) : Int) [empty] dg j gm (J.opened 64 2 1 0) [] D 0 (fun _ => none) F ∧ Below w.heap.size w y7) := ⟨lx, l8, hR, HS.out, HB.out⟩
          clear lx l8 hR hs hu HS HB
          rename Hid (Below w.heap.size w y8) => HB
          rename Hid (CS y8 c v sg ((0 : Nat) : Int) [sl 30 g8 c8 zs 0 false true] dg j gm (J.opened 64 2 1 0) [] D 0 (fun _ => none) F) => HS
          have ab := (Below.refl y8.heap.size y8).alloc (Nat.le_refl _) (.cells (Dk.bcs zs).toArray 5)
          have hx : Dk.Own (y8.alloc (.cells (Dk.bcs zs).toArray 5)) y8.heap.size zs := Dk.Box.new y8 (Dk.bcs zs).toArray 5
          have hx2 : RowB (y8.alloc (.cells (Dk.bcs zs).toArray 5)) gx cx zs := HX.out.2.2.1.same (ab.block gx HX.out.2.2.1.lt)
          have cc := Dk.same_at cx 4096 4096 4096 (some ⟨gx, 0, none⟩) (some ⟨y8.heap.size, 0, none⟩) zs zs (y8.alloc (.cells (Dk.bcs zs).toArray 5)) HZl.out HZl.out hx2.rd hx.rd
          rw [show (zs == zs) = true from by simp] at cc
          have HB' : Hid (Below w.heap.size w (y8.alloc (.cells (Dk.bcs zs).toArray 5))) := HB.out.trans (ab.mono HB.out.size)
          have HS' : Hid (CS (y8.alloc (.cells (Dk.bcs zs).toArray 5)) c v sg ((0 : Nat) : Int) [sl 30 g8 c8 zs 0 false true] dg j gm (J.opened 64 2 1 0) [] D 0 (fun _ => none) F) := HS.out.below ab
          have HX2 : Hid (RowB (y8.alloc (.cells (Dk.bcs zs).toArray 5)) gx cx zs) := hx2
          clear ab hx hx2 HS HB
          go_wp2_with fail
          refine Calls.mono cc ?_
          rintro r y9 ⟨rfl, rfl⟩
          clear cc
          obtain ⟨y9, hy9⟩ : ∃ y9, y9 = y8.alloc (.cells (Dk.bcs zs).toArray 5) := ⟨_, rfl⟩
          rw [← hy9] at HB' HS' HX2 ⊢
          clear hy9
          have HN : Hid (gx ≠ c ∧ gx ≠ sg ∧ gx ≠ v ∧ gx ≠ gm ∧ ¬ F gx ∧ g8 ≠ gx ∧ w.heap.size ≤ gx) := by
            obtain ⟨q1, q2, _, q3, q4⟩ := HX.out
            have l1 := q3.cd.box.lt
            have l2 := q3.cd.sl.lt
            have l3 := q3.vw.vlt
            have l5 := q4.size
            exact ⟨by omega, by omega, by omega, by omega, fun f => by have := q3.flt gx f; omega, by omega, by omega⟩
          clear HX
          go_wp2_with fail
          go_loopw [25] (fun v u => ∃ k : Nat, k ≤ 4096 ∧ v = .int .i64 (k : Int) ∧ Hid ((∃ cur : Array Value, Box u gx cur 5 ∧ 4096 ≤ cur.size) ∧ (∀ i, i ≠ gx → u.heap[i]? = y9.heap[i]?) ∧ y9.heap.size = u.heap.size ∧ Below w.heap.size w u)) (fun v _ => 4096 - (intOf v).toNat)
          case atStart =>
            refine ⟨0, by omega, rfl, ?_, fun _ _ => rfl, rfl, HB'.out⟩
            obtain ⟨cur, hb, hl, _, hs, _⟩ := HX2.out
            exact ⟨cur, hb, by have := HZl.out; omega⟩
          case round =>
            obtain ⟨k, hk, rfl, hrel⟩ := hrel
            by_cases hlt : k < 4096
            · have hki : (k : Int) < 4096 := by omega
              obtain ⟨⟨cur, hb, hl⟩, h2, h3, h4⟩ := hrel.out
              have ck : wr.cell? ⟨gx, k, none⟩ = some (cur[k]'(by omega)) := by rw [hb.cell k]; exact Array.getElem?_eq_getElem (by omega)
              have fk := hb.frozen k
              have b2 := hb.store k (.int .u8 9)
              have g2 := Dk.grown_store wr gx k (.int .u8 9)
              have HR : Hid ((∃ cur : Array Value, Box (wr.setCell ⟨gx, k, none⟩ (.int .u8 9)) gx cur 5 ∧ 4096 ≤ cur.size) ∧ (∀ i, i ≠ gx → (wr.setCell ⟨gx, k, none⟩ (.int .u8 9)).heap[i]? = y9.heap[i]?) ∧ y9.heap.size = (wr.setCell ⟨gx, k, none⟩ (.int .u8 9)).heap.size ∧ Below w.heap.size w (wr.setCell ⟨gx, k, none⟩ (.int .u8 9))) := by
                refine ⟨⟨_, b2, by simpa using hl⟩, fun i hi => (heap_setCell_other wr ⟨gx, k, none⟩ i _ hi).trans (h2 i hi), by simpa using h3, h4.grown g2 h4.size (fun q e => by cases e; exact HN.out.2.2.2.2.2.2)⟩
              generalize (cur[k]'(by omega)) = z at ck
              clear hb hl h2 h3 h4 b2 g2 hrel
              go_wp2_with fail
              go_roundw
              case rel => exact ⟨k + 1, by omega, by simp, HR⟩
              case measure => simp [intOf]; omega
            · have hkn : k = 4096 := by omega
              subst hkn
              have hki : ¬ (4096 : Int) < 4096 := by omega
              obtain ⟨_, h2, h3, h4⟩ := hrel.out
              have HS : Hid (CS wr c v sg ((0 : Nat) : Int) [sl 30 g8 c8 zs 0 false true] dg j gm (J.opened 64 2 1 0) [] D 0 (fun _ => none) F) := HS'.out.over gx h2 (by omega) HN.out.1 HN.out.2.1 HN.out.2.2.1 HN.out.2.2.2.1 HN.out.2.2.2.2.1 (fun s hs g cc e => by
                rw [List.mem_singleton.1 hs] at e
                have e2 : some (g8, c8) = some (g, cc) := e
                injection e2 with e2
                injection e2 with e3 e4
                have := HN.out.2.2.2.2.2.1
                omega)
              have HB : Hid (Below w.heap.size w wr) := h4
              clear h2 h3 h4 hrel HS' HB' HX2
              have cc := HS.out.load1
              go_wp2_with fail
              refine Calls.mono cc ?_
              rintro r z1 ⟨g', c', rfl, lg, hR, hs, hu⟩
              clear cc
              have HBz : Hid (Below w.heap.size w z1) := HB.out.trans (hu.below HL.out.1 HB.out.size)
              have HRz : Hid (RowB z1 g' c' zs) := hR
              clear hR hs hu lg HB HS
              have ab := (Below.refl z1.heap.size z1).alloc (Nat.le_refl _) (.cells (Dk.bcs zs).toArray 5)
              have hx : Dk.Own (z1.alloc (.cells (Dk.bcs zs).toArray 5)) z1.heap.size zs := Dk.Box.new z1 (Dk.bcs zs).toArray 5
              have hx2 : RowB (z1.alloc (.cells (Dk.bcs zs).toArray 5)) g' c' zs := HRz.out.same (ab.block g' HRz.out.lt)
              have cc := Dk.same_at c' 4096 4096 4096 (some ⟨g', 0, none⟩) (some ⟨z1.heap.size, 0, none⟩) zs zs (z1.alloc (.cells (Dk.bcs zs).toArray 5)) HZl.out HZl.out hx2.rd hx.rd
              rw [show (zs == zs) = true from by simp] at cc
              have HBy : Hid (Below w.heap.size w (z1.alloc (.cells (Dk.bcs zs).toArray 5))) := HBz.out.trans (ab.mono HBz.out.size)
              clear ab hx hx2
              go_wp2_with fail
              refine Calls.mono cc ?_
              rintro r z2 ⟨rfl, rfl⟩
              clear cc
              have cm := marks_at (z1.alloc (.cells (Dk.bcs zs).toArray 5))
              go_wp2_with fail
              refine Calls.mono cm ?_
              rintro r z3 ⟨rfl, b3⟩
              have HB3 : Hid (Below w.heap.size w z3) := HBy.out.trans (b3.mono HBy.out.size)
              clear cm b3
              have ca := awake_at z3
              go_wp2_with fail
              refine Calls.mono ca ?_
              rintro r z4 ⟨rfl, b4⟩
              have HB4 : Hid (Below w.heap.size w z4) := HB3.out.trans (b4.mono HB3.out.size)
              clear ca b4
              go_wp2
              go_ret
              exact ⟨rfl, HB4.out⟩
end Go.Proofs.YtnldkpckojhbhaaGreat.C
