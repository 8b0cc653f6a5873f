/-
  LaOf, JOpen, JFlush, RgRing, RgAsk, RgClos, RgCalls, RgPut, JApp, JAppF, JWrite, JWrite2, JState, SSmall, SRange, SGroup: put together.
-/
import Derived.Test.YtkhejjddmbegaaaGreatG6
import Derived.Test.YtkhejjddmbegaaaGreatRows
import Derived.WalkKit
import Derived.WalkSpells
import Derived.WalkLawsBesides
import Derived.Laws.BytesArg
import Derived.ProofKit
import Derived.Laws.StructEq
import Derived.BigQuiet
import Derived.Deep.RegionWith
import Derived.Deep.RegionHeld3
import Derived.RangeFuncNested
import Derived.RangeFuncBound
import Derived.RangeFuncCalls
import Derived.RangeFuncLeaves
/-
  layout's own calls: within, laid, Of; the document's Of.
-/
namespace Go.Proofs.YtkhejjddmbegaaaGreat.La
open Go.RowKit

/-- a block that was made for one value -/
def Box (w : World) (g : Nat) (cs : Array Value) (t : TypeId) : Prop := w.heap[g]? = some (.cells cs t (0, 0))
theorem Box.cell {w : World} {g : Nat} {cs : Array Value} {t : TypeId} (h : Box w g cs t) (j : Nat) : w.cell? ⟨g, j, none⟩ = cs[j]? := cell_of_row w g j cs t (0, 0) h
theorem Box.lt {w : World} {g : Nat} {cs : Array Value} {t : TypeId} (h : Box w g cs t) : g < w.heap.size := (Array.getElem?_eq_some_iff.1 h).1
theorem Box.below {w w' : World} {g : Nat} {cs : Array Value} {t : TypeId} (h : Box w g cs t) (hb : Below w.heap.size w w') : Box w' g cs t := (hb.block g h.lt).trans h
theorem Box.new (w : World) (cs : Array Value) (t : TypeId) : Box (w.alloc (.cells cs t)) w.heap.size cs t := heap_alloc_new w _

theorem Box.frozen {w : World} {g : Nat} {cs : Array Value} {t : TypeId} (h : Box w g cs t) (j : Nat) : w.frozen? ⟨g, j, none⟩ = false := frozen_of_row w g j cs t h
theorem Box.store {w : World} {g : Nat} {cs : Array Value} {t : TypeId} (h : Box w g cs t) (j : Nat) (v : Value) : Box (w.setCell ⟨g, j, none⟩ v) g (cs.setIfInBounds j v) t := heap_setCell_same w g j cs t v h
theorem Box.alloc {w : World} {g : Nat} {cs : Array Value} {t : TypeId} (h : Box w g cs t) (o : Obj) : Box (w.alloc o) g cs t := (Below.heap_alloc w o g h.lt).trans h
theorem Box.all7 {w : World} {g : Nat} {v0 v1 v2 v3 v4 v5 v6 : Value} {t : TypeId} (h : Box w g #[v0, v1, v2, v3, v4, v5, v6] t) : w.cell? ⟨g, 0, none⟩ = some v0 ∧ w.cell? ⟨g, 1, none⟩ = some v1 ∧ w.cell? ⟨g, 2, none⟩ = some v2 ∧ w.cell? ⟨g, 3, none⟩ = some v3 ∧ w.cell? ⟨g, 4, none⟩ = some v4 ∧ w.cell? ⟨g, 5, none⟩ = some v5 ∧ w.cell? ⟨g, 6, none⟩ = some v6 :=
  ⟨h.cell 0, h.cell 1, h.cell 2, h.cell 3, h.cell 4, h.cell 5, h.cell 6⟩
theorem Box.fr7 {w : World} {g : Nat} {cs : Array Value} {t : TypeId} (h : Box w g cs t) : w.frozen? ⟨g, 0, none⟩ = false ∧ w.frozen? ⟨g, 1, none⟩ = false ∧ w.frozen? ⟨g, 2, none⟩ = false ∧ w.frozen? ⟨g, 3, none⟩ = false ∧ w.frozen? ⟨g, 4, none⟩ = false ∧ w.frozen? ⟨g, 5, none⟩ = false ∧ w.frozen? ⟨g, 6, none⟩ = false :=
  ⟨h.frozen 0, h.frozen 1, h.frozen 2, h.frozen 3, h.frozen 4, h.frozen 5, h.frozen 6⟩
def set7 (w : World) (g : Nat) (u0 u1 u2 u3 u4 u5 u6 : Value) : World := (((((((w.setCell ⟨g, 0, none⟩ u0).setCell ⟨g, 1, none⟩ u1).setCell ⟨g, 2, none⟩ u2).setCell ⟨g, 3, none⟩ u3).setCell ⟨g, 4, none⟩ u4).setCell ⟨g, 5, none⟩ u5).setCell ⟨g, 6, none⟩ u6)
theorem Box.store7 {w : World} {g : Nat} {v0 v1 v2 v3 v4 v5 v6 u0 u1 u2 u3 u4 u5 u6 : Value} {t : TypeId} (h : Box w g #[v0, v1, v2, v3, v4, v5, v6] t) : Box (set7 w g u0 u1 u2 u3 u4 u5 u6) g #[u0, u1, u2, u3, u4, u5, u6] t := by
  have q := (((((((h.store 0 u0).store 1 u1).store 2 u2).store 3 u3).store 4 u4).store 5 u5).store 6 u6)
  unfold set7
  simpa using q
theorem below7 {B : Nat} {w0 w : World} {g : Nat} (h : Below B w0 w) (hg : B ≤ g) (u0 u1 u2 u3 u4 u5 u6 : Value) : Below B w0 (set7 w g u0 u1 u2 u3 u4 u5 u6) := (((((((h.setCell (p := ⟨g, 0, none⟩) hg u0).setCell (p := ⟨g, 1, none⟩) hg u1).setCell (p := ⟨g, 2, none⟩) hg u2).setCell (p := ⟨g, 3, none⟩) hg u3).setCell (p := ⟨g, 4, none⟩) hg u4).setCell (p := ⟨g, 5, none⟩) hg u5).setCell (p := ⟨g, 6, none⟩) hg u6)

/-- the blocks of the log of that many blocks -/
def lgs (n : Nat) : Nat := if n / 8 ≤ 16 then 16 else n / 8

theorem within_at (n a b : Int) (w : World) :
    Calls Tryz.prog 68 #[.int .i64 n, .int .i64 a, .int .i64 b] w fun r w' => r = .returned (.bool (decide (a ≤ n ∧ n ≤ b))) ∧ w = w' := by
  by_cases h1 : a ≤ n
  · by_cases h2 : n ≤ b
    · rw [decide_eq_true ⟨h1, h2⟩]
      go_enter Tryz.func68, Tryz.ntmps68
      go_wp2
      go_ret
      exact ⟨rfl, rfl⟩
    · rw [decide_eq_false (fun h => h2 h.2)]
      go_enter Tryz.func68, Tryz.ntmps68
      go_wp2
      go_ret
      exact ⟨rfl, rfl⟩
  · rw [decide_eq_false (fun h => h1 h.1)]
    go_enter Tryz.func68, Tryz.ntmps68
    go_wp2
    go_ret
    exact ⟨rfl, rfl⟩

theorem lgs_lo (n : Nat) (h : (n : Int) / 8 < 16) : lgs n = 16 := by unfold lgs; split <;> omega
theorem lgs_hi (n : Nat) (h : 16 ≤ (n : Int) / 8) : lgs n = n / 8 := by unfold lgs; split <;> omega
theorem lgs_ge (n : Nat) : 16 ≤ lgs n := by unfold lgs; split <;> omega
theorem lgs_le (n : Nat) (h : n ≤ 512) : lgs n ≤ 64 := by unfold lgs; split <;> omega
theorem lgs_free (n : Nat) (h0 : 64 ≤ n) : 3 + lgs n + n / 16 < n := by unfold lgs; split <;> omega

/-- the layout of n blocks, as a value's parts -/
def layA (n : Nat) : Array Value := #[.int .i64 n, .int .i64 2, .int .i64 (lgs n : Int), .int .i64 (2 + (lgs n : Int)), .int .i64 (3 + (lgs n : Int)), .int .i64 ((n : Int) / 16), .int .i64 (3 + (lgs n : Int) + (n : Int) / 16)]
def noneA : Array Value := #[.int .i64 0, .int .i64 0, .int .i64 0, .int .i64 0, .int .i64 0, .int .i64 0, .int .i64 0]

theorem laid_at (n : Nat) (w : World) (h0 : 64 ≤ n) (h1 : n ≤ 512) :
    Calls Tryz.prog 69 #[.int .i64 n] w fun r w' => r = .returned (.agg (layA n)) ∧ Below w.heap.size w w' := by
  unfold layA
  go_enter Tryz.func69, Tryz.ntmps69
  go_wp2
  · refine bodyPost_ret (by simp [results, Tryz.results69, go_sem]; rfl) rfl ⟨?_, ((Below.refl w.heap.size w).alloc (Nat.le_refl _) _).alloc (by simp) _⟩
    rw [lgs_lo n h]
    simp
  · refine bodyPost_ret (by simp [results, Tryz.results69, go_sem]; rfl) rfl ⟨?_, ((Below.refl w.heap.size w).alloc (Nat.le_refl _) _).alloc (by simp) _⟩
    rw [lgs_hi n h]
    simp
    omega

theorem of_good (n : Nat) (w : World) (h0 : 64 ≤ n) (h1 : n ≤ 512) :
    Calls Tryz.prog 46 #[.int .i64 n] w fun r w' => r = .returned (.tuple #[.agg (layA n), .int .i64 0]) ∧ Below w.heap.size w w' := by
  go_enter Tryz.func46, Tryz.ntmps46
  go_wp2_with fail
  refine (within_at _ _ _ _).mono ?_
  rintro r w1 ⟨rfl, rfl⟩
  rw [decide_eq_true (by omega)]
  go_wp2_with fail
  refine (laid_at n _ h0 h1).mono ?_
  rintro r w1 ⟨rfl, b1⟩
  have bx := (Box.new w #[.int .i64 0, .int .i64 0, .int .i64 0, .int .i64 0, .int .i64 0, .int .i64 0, .int .i64 0] 30).below b1
  have B1 := ((Below.refl w.heap.size w).alloc (Nat.le_refl _) _).trans (b1.mono (by simp))
  clear b1
  obtain ⟨c0, c1, c2, c3, c4, c5, c6⟩ := bx.all7
  obtain ⟨f0, f1, f2, f3, f4, f5, f6⟩ := bx.fr7
  unfold layA
  go_wp2_with fail
  have y := bx.store7 (u0 := .int .i64 n) (u1 := .int .i64 2) (u2 := .int .i64 (lgs n : Int)) (u3 := .int .i64 (2 + (lgs n : Int))) (u4 := .int .i64 (3 + (lgs n : Int))) (u5 := .int .i64 ((n : Int) / 16)) (u6 := .int .i64 (3 + (lgs n : Int) + (n : Int) / 16))
  unfold set7 at y
  have C1 := below7 B1 (Nat.le_refl _) (.int .i64 n) (.int .i64 2) (.int .i64 (lgs n : Int)) (.int .i64 (2 + (lgs n : Int))) (.int .i64 (3 + (lgs n : Int))) (.int .i64 ((n : Int) / 16)) (.int .i64 (3 + (lgs n : Int) + (n : Int) / 16))
  unfold set7 at C1
  clear bx B1 c0 c1 c2 c3 c4 c5 c6 f0 f1 f2 f3 f4 f5 f6
  obtain ⟨c0, c1, c2, c3, c4, c5, c6⟩ := y.all7
  refine bodyPost_ret (v := .tuple #[.agg (layA n), .int .i64 0]) (by simp only [layA]; simp [results, Tryz.results46, go_sem, c0, c1, c2, c3, c4, c5, c6]) rfl ⟨rfl, C1⟩

theorem of_bad (n : Int) (w : World) (h : ¬(64 ≤ n ∧ n ≤ 512)) :
    Calls Tryz.prog 46 #[.int .i64 n] w fun r w' => r = .returned (.tuple #[.agg noneA, .int .i64 2]) ∧ Below w.heap.size w w' := by
  go_enter Tryz.func46, Tryz.ntmps46
  go_wp2_with fail
  refine (within_at _ _ _ _).mono ?_
  rintro r w1 ⟨rfl, rfl⟩
  rw [decide_eq_false h]
  go_wp2_with fail
  refine bodyPost_ret (v := .tuple #[.agg noneA, .int .i64 2]) (by simp only [noneA]; simp [results, Tryz.results46, go_sem]) rfl ⟨rfl, (Below.refl _ _).alloc (Nat.le_refl _) _⟩

theorem fields23 : Tryz.prog.underlying 30 = some (.struct (Tryz.prog.fieldsOf 30)) := by kernel_rfl
theorem held23 : Tryz.prog.stoodInHeld 30 = false := by kernel_rfl
theorem guard23 : Tryz.prog.eqGuardType Tryz.prog.depth 30 = false := by kernel_rfl
/-- seven numbers are the same -/
def same7 (a b c d e f g a' b' c' d' e' f' g' : Int) : Bool := decide (a = a' ∧ b = b' ∧ c = c' ∧ d = d' ∧ e = e' ∧ f = f' ∧ g = g')
theorem eq23 (u : World) (a b c d e f g a' b' c' d' e' f' g' : Int) : (Op.equalIn 10000 30 (.agg #[.int .i64 a, .int .i64 b, .int .i64 c, .int .i64 d, .int .i64 e, .int .i64 f, .int .i64 g]) (.agg #[.int .i64 a', .int .i64 b', .int .i64 c', .int .i64 d', .int .i64 e', .int .i64 f', .int .i64 g'])).run Tryz.prog u = .ok (same7 a b c d e f g a' b' c' d' e' f' g') u := by
  rw [run_equalIn_agg u 9999 30 _ _ fields23 held23]
  simp only [Program.fieldsOf, Tryz.underlying30]
  simp [go_sem, Op.eqFields, Tryz.underlying3]
  unfold same7
  by_cases h1 : a = a' <;> simp [h1]
  by_cases h2 : b = b' <;> simp [h2]
  by_cases h3 : c = c' <;> simp [h3]
  by_cases h4 : d = d' <;> simp [h4]
  by_cases h5 : e = e' <;> simp [h5]
  by_cases h6 : f = f' <;> simp [h6]
  by_cases h7 : g = g' <;> simp [h7]
theorem eql23 (u : World) (a b c d e f g a' b' c' d' e' f' g' : Int) : (binOp .eql 30 (.agg #[.int .i64 a, .int .i64 b, .int .i64 c, .int .i64 d, .int .i64 e, .int .i64 f, .int .i64 g]) (.agg #[.int .i64 a', .int .i64 b', .int .i64 c', .int .i64 d', .int .i64 e', .int .i64 f', .int .i64 g'])).run Tryz.prog u = .ok (.bool (same7 a b c d e f g a' b' c' d' e' f' g')) u := by
  rw [run_eql_struct, eq23]
  rfl
theorem guardE23 (u : World) (x y : Operand) (xs ys : Array Value) : (eqGuard .eql 30 x y (.agg xs) (.agg ys)).run Tryz.prog u = .ok () u := run_eqGuard_agg u .eql 30 x y xs ys guard23

/-- is it the layout of its blocks -/
def IsLay (a b c d e f g : Int) : Prop := ∃ n : Nat, 64 ≤ n ∧ n ≤ 512 ∧ a = n ∧ b = 2 ∧ c = lgs n ∧ d = 2 + lgs n ∧ e = 3 + lgs n ∧ f = (n : Int) / 16 ∧ g = 3 + (lgs n : Int) + (n : Int) / 16

theorem ref_good (n : Nat) (w : World) (h0 : 64 ≤ n) (h1 : n ≤ 512) :
    Calls Tryz.prog 28 #[.int .i64 n] w fun r w' => r = .returned (.tuple #[.agg (layA n), .int .i64 0]) ∧ Below w.heap.size w w' := by
  unfold layA
  by_cases h : (n : Int) / 8 < 16
  · go_enter Tryz.func28, Tryz.ntmps28
    go_wp2
    refine bodyPost_ret (by simp [results, Tryz.results28, go_sem]; rfl) rfl ⟨?_, ((Below.refl w.heap.size w).alloc (Nat.le_refl _) _).alloc (by simp) _⟩
    rw [lgs_lo n h]
    simp
  · have h' : 16 ≤ (n : Int) / 8 := by omega
    go_enter Tryz.func28, Tryz.ntmps28
    go_wp2
    refine bodyPost_ret (by simp [results, Tryz.results28, go_sem]; rfl) rfl ⟨?_, ((Below.refl w.heap.size w).alloc (Nat.le_refl _) _).alloc (by simp) _⟩
    rw [lgs_hi n h']
    simp
    omega

theorem ref_bad (n : Int) (w : World) (h : ¬(64 ≤ n ∧ n ≤ 512)) :
    Calls Tryz.prog 28 #[.int .i64 n] w fun r w' => r = .returned (.tuple #[.agg noneA, .int .i64 2]) ∧ Below w.heap.size w w' := by
  by_cases h0 : n < 64
  · go_enter Tryz.func28, Tryz.ntmps28
    go_wp2
    exact bodyPost_ret (v := .tuple #[.agg noneA, .int .i64 2]) (by simp only [noneA]; simp [results, Tryz.results28, go_sem]) rfl ⟨rfl, ((Below.refl w.heap.size w).alloc (Nat.le_refl _) _)⟩
  · have h1 : 512 < n := by omega
    go_enter Tryz.func28, Tryz.ntmps28
    go_wp2
    exact bodyPost_ret (v := .tuple #[.agg noneA, .int .i64 2]) (by simp only [noneA]; simp [results, Tryz.results28, go_sem]) rfl ⟨rfl, ((Below.refl w.heap.size w).alloc (Nat.le_refl _) _)⟩

end Go.Proofs.YtkhejjddmbegaaaGreat.La

/-
  Open: of a disk, its own layout and numbers in bounds.
-/
namespace Go.Proofs.YtkhejjddmbegaaaGreat.J
open Go.RowKit
open Go.Proofs.YtkhejjddmbegaaaGreat.Dk (Box)

/-- a journal that was opened just now -/
def opened (n : Nat) (e s t : Int) : JS := ⟨2, e, s, s - 1, La.lgs n, t, 0, 0, false⟩

theorem neq40 (u : World) (n : Nat) : (binOp .neq 30 (.agg (La.layA n)) (.agg (La.layA n))).run Tryz.prog u = .ok (.bool false) u := by
  have h := La.eq23 u n 2 (La.lgs n) (2 + La.lgs n) (3 + La.lgs n) ((n : Int) / 16) (3 + (La.lgs n : Int) + (n : Int) / 16) n 2 (La.lgs n) (2 + La.lgs n) (3 + La.lgs n) ((n : Int) / 16) (3 + (La.lgs n : Int) + (n : Int) / 16)
  simp [La.same7] at h
  unfold La.layA
  simp only [binOp]
  simp [Op.equal, Op.maxDepth, h]

theorem open_good {g : Nat} {w : World} {D : Dk.DS} {F : Nat → Prop} {gd cd : Nat} {vu : Value} {ps : List (Nat × Nat × Nat)} (h : Dk.Lies w g D F gd cd vu ps) (hn : 64 ≤ D.nb) (hn' : D.nb ≤ 512)
    (e s t : Int) (he : 1 ≤ e ∧ e ≤ 8388608) (hs : 1 ≤ s ∧ s ≤ 549755813888) (ht : 0 ≤ t ∧ t ≤ (La.lgs D.nb : Int) - 1) :
    Calls Tryz.prog 29 #[.pointer (some ⟨g, 0, none⟩), .agg (La.layA D.nb), .int .i64 e, .int .i64 s, .int .i64 t] w fun r w' => ∃ j, w.heap.size ≤ j ∧ r = .returned (.tuple #[.pointer (some ⟨j, 0, none⟩), .int .i64 0]) ∧ Box w' j (jC j g (.slice none 0 0) (opened D.nb e s t)) 105 ∧ Below w.heap.size w w' := by
  have hq := neq40
  have B0 := (Below.refl w.heap.size w).alloc (Nat.le_refl _) (.cells (La.layA D.nb) 30)
  have l0 := Box.new w (La.layA D.nb) 30
  have hL := La.lgs_le D.nb hn'
  have hk : Dk.Lies (w.alloc (.cells (La.layA D.nb) 30)) g D F gd cd vu ps := h.kept (fun i hi => B0.block i (h.flt i hi)) B0.size
  have hgl := h.flt g h.fg
  have c1 := Dk.size_at hk
  generalize D.nb = n at *
  have hn0 : ((n : Int) = 0) = False := by simp; omega
  unfold La.layA at l0 B0 c1 hk ⊢
  go_enter Tryz.func29, Tryz.ntmps29
  go_wp2_with fail
  refine c1.mono ?_
  rintro r w1 ⟨rfl, rfl⟩
  go_wp2_with fail
  refine (La.of_good n _ hn hn').mono ?_
  rintro r w1 ⟨rfl, b1⟩
  unfold La.layA
  have B1 := B0.trans (b1.mono B0.size)
  have l1 := l0.below b1
  clear b1 c1 hk
  have l2 := l1.alloc (.cells #[.int .i64 n, .int .i64 2, .int .i64 (La.lgs n : Int), .int .i64 (2 + (La.lgs n : Int)), .int .i64 (3 + (La.lgs n : Int)), .int .i64 ((n : Int) / 16), .int .i64 (3 + (La.lgs n : Int) + (n : Int) / 16)] 30)
  have y0 := l2.cell 0
  have y1 := l2.cell 1
  have y2 := l2.cell 2
  have y3 := l2.cell 3
  have y4 := l2.cell 4
  have y5 := l2.cell 5
  have y6 := l2.cell 6
  simp at y0 y1 y2 y3 y4 y5 y6
  unfold La.layA at hq
  go_wp2_with fail
  refine (within_at _ _ _ _).mono ?_
  rintro r w2 ⟨rfl, rfl⟩
  rw [decide_eq_true he]
  go_wp2_with fail
  refine (within_at _ _ _ _).mono ?_
  rintro r w2 ⟨rfl, rfl⟩
  rw [decide_eq_true hs]
  go_wp2_with fail
  refine (within_at _ _ _ _).mono ?_
  rintro r w2 ⟨rfl, rfl⟩
  rw [decide_eq_true ht]
  go_wp2_with fail
  have hz := B1.size
  refine bodyPost_ret (v := .tuple #[.pointer (some ⟨w1.heap.size + 1, 0, none⟩), .int .i64 0]) (by simp [results, Tryz.results29, go_sem]) rfl ⟨w1.heap.size + 1, by omega, rfl, ?_, ?_⟩
  · have q := Box.new (w1.alloc (.cells #[.int .i64 n, .int .i64 2, .int .i64 (La.lgs n : Int), .int .i64 (2 + (La.lgs n : Int)), .int .i64 (3 + (La.lgs n : Int)), .int .i64 ((n : Int) / 16), .int .i64 (3 + (La.lgs n : Int) + (n : Int) / 16)] 30)) (jC (w1.heap.size + 1) g (.slice none 0 0) (opened n e s t)) 105
    rw [show (w1.alloc (.cells #[.int .i64 n, .int .i64 2, .int .i64 (La.lgs n : Int), .int .i64 (2 + (La.lgs n : Int)), .int .i64 (3 + (La.lgs n : Int)), .int .i64 ((n : Int) / 16), .int .i64 (3 + (La.lgs n : Int) + (n : Int) / 16)] 30)).heap.size = w1.heap.size + 1 by simp] at q
    exact q
  · exact (B1.alloc B1.size _).alloc (by simp; omega) _
end Go.Proofs.YtkhejjddmbegaaaGreat.J

/-
  The rest is asked of a journal that is whole; Flush.
-/
namespace Go.Proofs.YtkhejjddmbegaaaGreat.J
open Go.RowKit
open Go.Proofs.YtkhejjddmbegaaaGreat.Dk (Box)

theorem ahead_in25 {w : World} {g dg : Nat} {vs : Value} {J : JS} (h : Box w g (jC g dg vs J) 105) (hb : J.broken = false) (Q : Int → World → Prop) (caps : Array Value)
    (hc : Calls Tryz.prog 54 caps w fun r w' => ∃ e : Int, r = .returned (.int .i64 e) ∧ Q e w') :
    Calls Tryz.prog 53 #[.pointer (some ⟨g, 0, none⟩), .func (.func 54) #[] caps] w fun r w' => ∃ e : Int, r = .returned (.int .i64 e) ∧ Q e w' := by
  obtain ⟨c0, _, _, _, _, _, _, _, _, _, _, c11⟩ := box_cells h
  rw [hb] at c11
  go_enter Tryz.func53, Tryz.ntmps53
  go_wp2_with fail
  refine (isMade_cell g w c0).mono ?_
  rintro r w1 ⟨rfl, rfl⟩
  go_wp2_with fail
  refine hc.mono ?_
  rintro r w1 ⟨e, rfl, hq⟩
  go_wp2_with fail
  go_ret
  exact ⟨e, rfl, hq⟩

end Go.Proofs.YtkhejjddmbegaaaGreat.J

/-
  ring's own calls: within, Right, Free, behind, ask with its closures, At, Reserve, Release, Put, Drop.
-/
namespace Go.Proofs.YtkhejjddmbegaaaGreat.Rg
open Go.RowKit

/-- a block that was made for one value -/
def Box (w : World) (g : Nat) (cs : Array Value) (t : TypeId) : Prop := w.heap[g]? = some (.cells cs t (0, 0))
theorem Box.cell {w : World} {g : Nat} {cs : Array Value} {t : TypeId} (h : Box w g cs t) (j : Nat) : w.cell? ⟨g, j, none⟩ = cs[j]? := cell_of_row w g j cs t (0, 0) h
theorem Box.lt {w : World} {g : Nat} {cs : Array Value} {t : TypeId} (h : Box w g cs t) : g < w.heap.size := (Array.getElem?_eq_some_iff.1 h).1
theorem Box.below {w w' : World} {g : Nat} {cs : Array Value} {t : TypeId} (h : Box w g cs t) (hb : Below w.heap.size w w') : Box w' g cs t := (hb.block g h.lt).trans h
theorem Box.new (w : World) (cs : Array Value) (t : TypeId) : Box (w.alloc (.cells cs t)) w.heap.size cs t := heap_alloc_new w _
theorem Box.frozen {w : World} {g : Nat} {cs : Array Value} {t : TypeId} (h : Box w g cs t) (j : Nat) : w.frozen? ⟨g, j, none⟩ = false := frozen_of_row w g j cs t h
theorem Box.store {w : World} {g : Nat} {cs : Array Value} {t : TypeId} (h : Box w g cs t) (j : Nat) (v : Value) : Box (w.setCell ⟨g, j, none⟩ v) g (cs.setIfInBounds j v) t := heap_setCell_same w g j cs t v h
theorem Box.other {w : World} {g k : Nat} {cs : Array Value} {t : TypeId} (h : Box w g cs t) (j : Nat) (v : Value) (hn : g ≠ k) : Box (w.setCell ⟨k, j, none⟩ v) g cs t := (heap_setCell_other w ⟨k, j, none⟩ g v hn).trans h
theorem Box.alloc {w : World} {g : Nat} {cs : Array Value} {t : TypeId} (h : Box w g cs t) (o : Obj) : Box (w.alloc o) g cs t := (Below.heap_alloc w o g h.lt).trans h
theorem Box.next (w : World) (o : Obj) (cs : Array Value) (t : TypeId) : Box ((w.alloc o).alloc (.cells cs t)) (w.heap.size + 1) cs t := by
  have := Box.new (w.alloc o) cs t
  simpa using this
theorem Box.next2 (w : World) (o o' : Obj) (cs : Array Value) (t : TypeId) : Box (((w.alloc o).alloc o').alloc (.cells cs t)) (w.heap.size + 2) cs t := by
  have := Box.new ((w.alloc o).alloc o') cs t
  simpa using this
theorem Box.next3 (w : World) (o o' o'' : Obj) (cs : Array Value) (t : TypeId) : Box ((((w.alloc o).alloc o').alloc o'').alloc (.cells cs t)) (w.heap.size + 3) cs t := by
  have := Box.new (((w.alloc o).alloc o').alloc o'') cs t
  simpa using this
theorem Box.all4 {w : World} {g : Nat} {v0 v1 v2 v3 : Value} {t : TypeId} (h : Box w g #[v0, v1, v2, v3] t) : w.cell? ⟨g, 0, none⟩ = some v0 ∧ w.cell? ⟨g, 1, none⟩ = some v1 ∧ w.cell? ⟨g, 2, none⟩ = some v2 ∧ w.cell? ⟨g, 3, none⟩ = some v3 :=
  ⟨h.cell 0, h.cell 1, h.cell 2, h.cell 3⟩
theorem Box.fr4 {w : World} {g : Nat} {cs : Array Value} {t : TypeId} (h : Box w g cs t) : w.frozen? ⟨g, 0, none⟩ = false ∧ w.frozen? ⟨g, 1, none⟩ = false ∧ w.frozen? ⟨g, 2, none⟩ = false ∧ w.frozen? ⟨g, 3, none⟩ = false :=
  ⟨h.frozen 0, h.frozen 1, h.frozen 2, h.frozen 3⟩
theorem Box.one {w : World} {g : Nat} {v0 : Value} {t : TypeId} (h : Box w g #[v0] t) : w.cell? ⟨g, 0, none⟩ = some v0 := h.cell 0
theorem keep {w wk w' : World} (B : Below w.heap.size w wk) (b : Below wk.heap.size wk w') : Below w.heap.size w w' := B.trans (b.mono B.size)
theorem keepA {w wk w' : World} {o : Obj} (B : Below w.heap.size w wk) (b : Below (wk.alloc o).heap.size (wk.alloc o) w') : Below w.heap.size w w' := keep (B.alloc B.size o) b

/-- the numbers make a right ring -/
def R (S T U H : Int) : Prop := (1 ≤ S ∧ S ≤ 512) ∧ (0 ≤ T ∧ T ≤ S - 1) ∧ (0 ≤ U ∧ U ≤ S) ∧ (0 ≤ H ∧ H ≤ S - U)
instance (S T U H : Int) : Decidable (R S T U H) := by unfold R; infer_instance
/-- a ring as a value's parts -/
def ri (S T U H : Int) : Array Value := #[.int .i64 S, .int .i64 T, .int .i64 U, .int .i64 H]

theorem within_at (n a b : Int) (w : World) :
    Calls Tryz.prog 80 #[.int .i64 n, .int .i64 a, .int .i64 b] w fun r w' => r = .returned (.bool (decide (a ≤ n ∧ n ≤ b))) ∧ w = w' := by
  by_cases h1 : a ≤ n
  · by_cases h2 : n ≤ b
    · rw [decide_eq_true ⟨h1, h2⟩]
      go_enter Tryz.func80, Tryz.ntmps80
      go_wp2
      go_ret
      exact ⟨rfl, rfl⟩
    · rw [decide_eq_false (fun h => h2 h.2)]
      go_enter Tryz.func80, Tryz.ntmps80
      go_wp2
      go_ret
      exact ⟨rfl, rfl⟩
  · rw [decide_eq_false (fun h => h1 h.1)]
    go_enter Tryz.func80, Tryz.ntmps80
    go_wp2
    go_ret
    exact ⟨rfl, rfl⟩

theorem right_at (S T U H : Int) (w : World) :
    Calls Tryz.prog 97 #[.agg (ri S T U H)] w fun r w' => r = .returned (.bool (decide (R S T U H))) ∧ Below w.heap.size w w' := by
  unfold ri
  have B := (Below.refl w.heap.size w).alloc (Nat.le_refl _) (.cells #[.int .i64 S, .int .i64 T, .int .i64 U, .int .i64 H] 103)
  by_cases h1 : 1 ≤ S ∧ S ≤ 512
  · by_cases h2 : 0 ≤ T ∧ T ≤ S - 1
    · by_cases h3 : 0 ≤ U ∧ U ≤ S
      · have e : decide (R S T U H) = decide (0 ≤ H ∧ H ≤ S - U) := decide_eq_decide.2 ⟨fun h => h.2.2.2, fun h => ⟨h1, h2, h3, h⟩⟩
        rw [e]
        go_enter Tryz.func97, Tryz.ntmps97
        go_wp2_with fail
        refine (within_at _ _ _ _).mono ?_
        rintro r w1 ⟨rfl, rfl⟩
        rw [decide_eq_true h1]
        go_wp2_with fail
        refine (within_at _ _ _ _).mono ?_
        rintro r w1 ⟨rfl, rfl⟩
        rw [decide_eq_true h2]
        go_wp2_with fail
        refine (within_at _ _ _ _).mono ?_
        rintro r w1 ⟨rfl, rfl⟩
        rw [decide_eq_true h3]
        go_wp2_with fail
        refine (within_at _ _ _ _).mono ?_
        rintro r w1 ⟨rfl, rfl⟩
        go_wp2_with fail
        go_ret
        exact ⟨by simp, B⟩
      · rw [decide_eq_false (p := R S T U H) (fun h => h3 h.2.2.1)]
        go_enter Tryz.func97, Tryz.ntmps97
        go_wp2_with fail
        refine (within_at _ _ _ _).mono ?_
        rintro r w1 ⟨rfl, rfl⟩
        rw [decide_eq_true h1]
        go_wp2_with fail
        refine (within_at _ _ _ _).mono ?_
        rintro r w1 ⟨rfl, rfl⟩
        rw [decide_eq_true h2]
        go_wp2_with fail
        refine (within_at _ _ _ _).mono ?_
        rintro r w1 ⟨rfl, rfl⟩
        rw [decide_eq_false h3]
        go_wp2_with fail
        go_ret
        exact ⟨rfl, B⟩
    · rw [decide_eq_false (p := R S T U H) (fun h => h2 h.2.1)]
      go_enter Tryz.func97, Tryz.ntmps97
      go_wp2_with fail
      refine (within_at _ _ _ _).mono ?_
      rintro r w1 ⟨rfl, rfl⟩
      rw [decide_eq_true h1]
      go_wp2_with fail
      refine (within_at _ _ _ _).mono ?_
      rintro r w1 ⟨rfl, rfl⟩
      rw [decide_eq_false h2]
      go_wp2_with fail
      go_ret
      exact ⟨rfl, B⟩
  · rw [decide_eq_false (p := R S T U H) (fun h => h1 h.1)]
    go_enter Tryz.func97, Tryz.ntmps97
    go_wp2_with fail
    refine (within_at _ _ _ _).mono ?_
    rintro r w1 ⟨rfl, rfl⟩
    rw [decide_eq_false h1]
    go_wp2_with fail
    go_ret
    exact ⟨rfl, B⟩

/-- what is free -/
def fr (S T U H : Int) : Int := if R S T U H then S - U - H else 0
theorem free_at (S T U H : Int) (w : World) :
    Calls Tryz.prog 83 #[.agg (ri S T U H)] w fun r w' => r = .returned (.int .i64 (fr S T U H)) ∧ Below w.heap.size w w' := by
  have B := (Below.refl w.heap.size w).alloc (Nat.le_refl _) (.cells (ri S T U H) 103)
  have bx := Box.new w (ri S T U H) 103
  unfold ri at *
  by_cases h : R S T U H
  · rw [fr, if_pos h]
    go_enter Tryz.func83, Tryz.ntmps83
    go_wp2_with fail
    refine (right_at _ _ _ _ _).mono ?_
    rintro r w1 ⟨rfl, b1⟩
    have bx1 := bx.below b1
    have B1 := keep B b1
    clear bx B b1
    obtain ⟨c0, c1, c2, c3⟩ := bx1.all4
    rw [decide_eq_true h]
    obtain ⟨h1, h2, h3, h4⟩ := h
    go_wp2_with fail
    go_ret
    exact ⟨rfl, B1⟩
  · rw [fr, if_neg h]
    go_enter Tryz.func83, Tryz.ntmps83
    go_wp2_with fail
    refine (right_at _ _ _ _ _).mono ?_
    rintro r w1 ⟨rfl, b1⟩
    have B1 := keep B b1
    clear bx B b1
    rw [decide_eq_false h]
    go_wp2_with fail
    go_ret
    exact ⟨rfl, B1⟩

theorem behind_at (S T U H n : Int) (w : World) (hS : 1 ≤ S) (hS' : S ≤ 512) (hT : 0 ≤ T) (hT' : T < S) (hn : 0 ≤ n) (hn' : n ≤ S) :
    Calls Tryz.prog 84 #[.agg (ri S T U H), .int .i64 n] w fun r w' => r = .returned (.int .i64 ((T + n) % S)) ∧ Below w.heap.size w w' := by
  have B := (Below.refl w.heap.size w).alloc (Nat.le_refl _) (.cells (ri S T U H) 103)
  have bx := Box.new w (ri S T U H) 103
  have e : (T + n).tmod S = (T + n) % S := Int.tmod_eq_emod_of_nonneg (by omega)
  unfold ri at *
  obtain ⟨c0, c1, c2, c3⟩ := bx.all4
  go_enter Tryz.func84, Tryz.ntmps84
  go_wp2_with fail
  go_ret
  exact ⟨by simp, B⟩

end Go.Proofs.YtkhejjddmbegaaaGreat.Rg

/-
  ask, whatever closure it is handed.
-/
namespace Go.Proofs.YtkhejjddmbegaaaGreat.Rg
open Go.RowKit

theorem ask_bad (S T U H n no : Int) (f : Value) (w : World) (h : ¬(R S T U H ∧ 0 ≤ n)) :
    Calls Tryz.prog 81 #[.agg (ri S T U H), .int .i64 n, f, .int .i64 no] w fun r w' => r = .returned (.int .i64 2) ∧ Below w.heap.size w w' := by
  have B := (Below.refl w.heap.size w).alloc (Nat.le_refl _) (.cells (ri S T U H) 103)
  unfold ri at *
  by_cases hR : R S T U H
  · have hn : n < 0 := by
      by_cases q : 0 ≤ n
      · exact absurd ⟨hR, q⟩ h
      · omega
    go_enter Tryz.func81, Tryz.ntmps81
    go_wp2_with fail
    refine (right_at _ _ _ _ _).mono ?_
    rintro r w1 ⟨rfl, b1⟩
    have B1 := keep B b1
    clear B b1
    rw [decide_eq_true hR]
    go_wp2_with fail
    go_ret
    exact ⟨rfl, B1⟩
  · go_enter Tryz.func81, Tryz.ntmps81
    go_wp2_with fail
    refine (right_at _ _ _ _ _).mono ?_
    rintro r w1 ⟨rfl, b1⟩
    have B1 := keep B b1
    clear B b1
    rw [decide_eq_false hR]
    go_wp2_with fail
    go_ret
    exact ⟨rfl, B1⟩

theorem ask_in27 (caps : Array Value) (S T U H n no : Int) (m : Bool) (w : World) (hR : R S T U H) (hn : 0 ≤ n)
    (hm : ∀ w', Below w.heap.size w w' → Calls Tryz.prog 79 caps w' fun r w'' => r = .returned (.bool m) ∧ Below w'.heap.size w' w'') :
    Calls Tryz.prog 81 #[.agg (ri S T U H), .int .i64 n, .func (.func 79) #[] caps, .int .i64 no] w fun r w' => r = .returned (.int .i64 (if m then 0 else no)) ∧ Below w.heap.size w w' := by
  have B := (Below.refl w.heap.size w).alloc (Nat.le_refl _) (.cells (ri S T U H) 103)
  unfold ri at *
  cases m
  · rw [if_neg (by simp)]
    go_enter Tryz.func81, Tryz.ntmps81
    go_wp2_with fail
    refine (right_at _ _ _ _ _).mono ?_
    rintro r w1 ⟨rfl, b1⟩
    have B1 := keep B b1
    clear B b1
    rw [decide_eq_true hR]
    go_wp2_with fail
    refine (hm _ B1).mono ?_
    rintro r w2 ⟨rfl, b2⟩
    have B2 := keep B1 b2
    go_wp2_with fail
    go_ret
    exact ⟨rfl, B2⟩
  · rw [if_pos rfl]
    go_enter Tryz.func81, Tryz.ntmps81
    go_wp2_with fail
    refine (right_at _ _ _ _ _).mono ?_
    rintro r w1 ⟨rfl, b1⟩
    have B1 := keep B b1
    clear B b1
    rw [decide_eq_true hR]
    go_wp2_with fail
    refine (hm _ B1).mono ?_
    rintro r w2 ⟨rfl, b2⟩
    have B2 := keep B1 b2
    go_wp2_with fail
    go_ret
    exact ⟨rfl, B2⟩

theorem ask_in29 (caps : Array Value) (S T U H n no : Int) (m : Bool) (w : World) (hR : R S T U H) (hn : 0 ≤ n)
    (hm : ∀ w', Below w.heap.size w w' → Calls Tryz.prog 82 caps w' fun r w'' => r = .returned (.bool m) ∧ Below w'.heap.size w' w'') :
    Calls Tryz.prog 81 #[.agg (ri S T U H), .int .i64 n, .func (.func 82) #[] caps, .int .i64 no] w fun r w' => r = .returned (.int .i64 (if m then 0 else no)) ∧ Below w.heap.size w w' := by
  have B := (Below.refl w.heap.size w).alloc (Nat.le_refl _) (.cells (ri S T U H) 103)
  unfold ri at *
  cases m
  · rw [if_neg (by simp)]
    go_enter Tryz.func81, Tryz.ntmps81
    go_wp2_with fail
    refine (right_at _ _ _ _ _).mono ?_
    rintro r w1 ⟨rfl, b1⟩
    have B1 := keep B b1
    clear B b1
    rw [decide_eq_true hR]
    go_wp2_with fail
    refine (hm _ B1).mono ?_
    rintro r w2 ⟨rfl, b2⟩
    have B2 := keep B1 b2
    go_wp2_with fail
    go_ret
    exact ⟨rfl, B2⟩
  · rw [if_pos rfl]
    go_enter Tryz.func81, Tryz.ntmps81
    go_wp2_with fail
    refine (right_at _ _ _ _ _).mono ?_
    rintro r w1 ⟨rfl, b1⟩
    have B1 := keep B b1
    clear B b1
    rw [decide_eq_true hR]
    go_wp2_with fail
    refine (hm _ B1).mono ?_
    rintro r w2 ⟨rfl, b2⟩
    have B2 := keep B1 b2
    go_wp2_with fail
    go_ret
    exact ⟨rfl, B2⟩

end Go.Proofs.YtkhejjddmbegaaaGreat.Rg

/-
  The closures that ask is handed.
-/
namespace Go.Proofs.YtkhejjddmbegaaaGreat.Rg
open Go.RowKit

abbrev pt (g : Nat) : Value := .pointer (some ⟨g, 0, none⟩)

theorem put1 (S T U H n k : Int) (f g h : Nat) (w : World) (bk : Box w f #[.int .i64 k] 3) (bn : Box w g #[.int .i64 n] 3) (br : Box w h (ri S T U H) 103) :
    Calls Tryz.prog 79 #[pt f, pt g, pt h] w fun r w' => r = .returned (.bool (decide (0 ≤ k ∧ k ≤ n ∧ k ≤ H))) ∧ Below w.heap.size w w' := by
  have c := bn.one
  have d := bk.one
  obtain ⟨c0, c1, c2, c3⟩ := br.all4
  by_cases q : n ≤ H
  · have e : decide (0 ≤ k ∧ k ≤ n ∧ k ≤ H) = decide (0 ≤ k ∧ k ≤ n) := decide_eq_decide.2 (by omega)
    rw [e]
    go_enter Tryz.func79, Tryz.ntmps79
    go_wp2_with fail
    refine (within_at _ _ _ _).mono ?_
    rintro r w1 ⟨rfl, rfl⟩
    go_wp2_with fail
    go_ret
    exact ⟨by simp, Below.refl _ _⟩
  · have e : decide (0 ≤ k ∧ k ≤ n ∧ k ≤ H) = decide (0 ≤ k ∧ k ≤ H) := decide_eq_decide.2 (by omega)
    rw [e]
    go_enter Tryz.func79, Tryz.ntmps79
    go_wp2_with fail
    refine (within_at _ _ _ _).mono ?_
    rintro r w1 ⟨rfl, rfl⟩
    go_wp2_with fail
    go_ret
    exact ⟨by simp, Below.refl _ _⟩

set_option maxHeartbeats 2000000 in
theorem put2 (S T U H n k : Int) (f g h : Nat) (w : World) (hk : 0 ≤ k) (hkn : k ≤ n) (hn : n ≤ 9223372036854775807) (bk : Box w f #[.int .i64 k] 3) (bn : Box w g #[.int .i64 n] 3) (br : Box w h (ri S T U H) 103) :
    Calls Tryz.prog 82 #[pt g, pt f, pt h] w fun r w' => r = .returned (.bool (decide (n - k ≤ fr S T U H))) ∧ Below w.heap.size w w' := by
  have hw : IntKind.i64.wrap (n - k) = n - k := by rw [IntKind.wrap_i64]; omega
  have c := bn.one
  have c' := bk.one
  obtain ⟨c0, c1, c2, c3⟩ := br.all4
  go_enter Tryz.func82, Tryz.ntmps82
  go_wp2_with fail
  go_region_with (go_at_call 83; refine (free_at S T U H _).mono ?_; rintro e w2 ⟨rfl, b2⟩; have B2 := ((Below.refl w.heap.size w).drew).trans b2; have d := ((show Box w.drew g #[.int .i64 n] 3 from bn).below b2).one; have d' := ((show Box w.drew f #[.int .i64 k] 3 from bk).below b2).one)
  all_goals go_wp2_with fail
  all_goals go_ret
  all_goals exact ⟨by first | rfl | (rw [hw]; rfl), B2⟩
end Go.Proofs.YtkhejjddmbegaaaGreat.Rg

/-
  The calls: At, Reserve, Release, Put, Drop.
-/
namespace Go.Proofs.YtkhejjddmbegaaaGreat.Rg
open Go.RowKit

/-- four numbers stored over four -/
def set4 (w : World) (g : Nat) (u0 u1 u2 u3 : Value) : World := ((((w.setCell ⟨g, 0, none⟩ u0).setCell ⟨g, 1, none⟩ u1).setCell ⟨g, 2, none⟩ u2).setCell ⟨g, 3, none⟩ u3)
theorem Box.store4 {w : World} {g : Nat} {v0 v1 v2 v3 u0 u1 u2 u3 : Value} {t : TypeId} (h : Box w g #[v0, v1, v2, v3] t) : Box (set4 w g u0 u1 u2 u3) g #[u0, u1, u2, u3] t := by
  have q := ((((h.store 0 u0).store 1 u1).store 2 u2).store 3 u3)
  unfold set4
  simpa using q
theorem below4 {B : Nat} {w0 w : World} {g : Nat} (h : Below B w0 w) (hg : B ≤ g) (u0 u1 u2 u3 : Value) : Below B w0 (set4 w g u0 u1 u2 u3) := ((((h.setCell (p := ⟨g, 0, none⟩) hg u0).setCell (p := ⟨g, 1, none⟩) hg u1).setCell (p := ⟨g, 2, none⟩) hg u2).setCell (p := ⟨g, 3, none⟩) hg u3)

/-- the world behind the boxes of a ring and a number -/
def W2 (w : World) (S T U H n : Int) : World := (w.alloc (.cells (ri S T U H) 103)).alloc (.cells #[.int .i64 n] 3)
def W3 (w : World) (S T U H n : Int) : World := (W2 w S T U H n).alloc (.cells #[.int .i64 0, .int .i64 0, .int .i64 0, .int .i64 0] 103)
theorem w2_r (w : World) (S T U H n : Int) : Box (W2 w S T U H n) w.heap.size (ri S T U H) 103 := (Box.new w _ 103).alloc _
theorem w2_n (w : World) (S T U H n : Int) : Box (W2 w S T U H n) (w.heap.size + 1) #[.int .i64 n] 3 := Box.next w _ _ 3
theorem w2_b (w : World) (S T U H n : Int) : Below w.heap.size w (W2 w S T U H n) := ((Below.refl w.heap.size w).alloc (Nat.le_refl _) _).alloc (by simp) _
theorem w3_r (w : World) (S T U H n : Int) : Box (W3 w S T U H n) w.heap.size (ri S T U H) 103 := (w2_r w S T U H n).alloc _
theorem w3_n (w : World) (S T U H n : Int) : Box (W3 w S T U H n) (w.heap.size + 1) #[.int .i64 n] 3 := (w2_n w S T U H n).alloc _
theorem w3_o (w : World) (S T U H n : Int) : Box (W3 w S T U H n) (w.heap.size + 2) #[.int .i64 0, .int .i64 0, .int .i64 0, .int .i64 0] 103 := Box.next2 w _ _ _ 103
theorem w3_b (w : World) (S T U H n : Int) : Below w.heap.size w (W3 w S T U H n) := (w2_b w S T U H n).alloc (w2_b w S T U H n).size _

end Go.Proofs.YtkhejjddmbegaaaGreat.Rg

/-
  Put.
-/
namespace Go.Proofs.YtkhejjddmbegaaaGreat.Rg
open Go.RowKit

def W4 (w : World) (S T U H n k : Int) : World := (((w.alloc (.cells (ri S T U H) 103)).alloc (.cells #[.int .i64 n] 3)).alloc (.cells #[.int .i64 k] 3)).alloc (.cells #[.int .i64 0, .int .i64 0, .int .i64 0, .int .i64 0] 103)
theorem w4_r (w : World) (S T U H n k : Int) : Box (W4 w S T U H n k) w.heap.size (ri S T U H) 103 := (((Box.new w _ 103).alloc _).alloc _).alloc _
theorem w4_n (w : World) (S T U H n k : Int) : Box (W4 w S T U H n k) (w.heap.size + 1) #[.int .i64 n] 3 := ((Box.next w _ _ 3).alloc _).alloc _
theorem w4_k (w : World) (S T U H n k : Int) : Box (W4 w S T U H n k) (w.heap.size + 2) #[.int .i64 k] 3 := (Box.next2 w _ _ _ 3).alloc _
theorem w4_o (w : World) (S T U H n k : Int) : Box (W4 w S T U H n k) (w.heap.size + 3) #[.int .i64 0, .int .i64 0, .int .i64 0, .int .i64 0] 103 := Box.next3 w _ _ _ _ 103
theorem w4_b (w : World) (S T U H n k : Int) : Below w.heap.size w (W4 w S T U H n k) := ((((Below.refl w.heap.size w).alloc (Nat.le_refl _) _).alloc (by simp) _).alloc (by simp; omega) _).alloc (by simp; omega) _

theorem put_no (S T U H n k : Int) (w : World) (h : ¬((R S T U H ∧ 0 ≤ n) ∧ 0 ≤ k ∧ k ≤ n ∧ k ≤ H)) :
    Calls Tryz.prog 57 #[.agg (ri S T U H), .int .i64 n, .int .i64 k] w fun r w' => r = .returned (.tuple #[.agg (ri 0 0 0 0), .int .i64 0, .int .i64 2]) ∧ Below w.heap.size w w' := by
  have br := w4_r w S T U H n k
  have bn := w4_n w S T U H n k
  have bk := w4_k w S T U H n k
  have bo := w4_o w S T U H n k
  have B0 := w4_b w S T U H n k
  have hask : Calls Tryz.prog 81 #[.agg (ri S T U H), .int .i64 n, .func (.func 79) #[] #[pt (w.heap.size + 2), pt (w.heap.size + 1), pt w.heap.size], .int .i64 2] (W4 w S T U H n k) fun r w' => r = .returned (.int .i64 2) ∧ Below (W4 w S T U H n k).heap.size (W4 w S T U H n k) w' := by
    by_cases q : R S T U H ∧ 0 ≤ n
    · have := ask_in27 #[pt (w.heap.size + 2), pt (w.heap.size + 1), pt w.heap.size] S T U H n 2 (decide (0 ≤ k ∧ k ≤ n ∧ k ≤ H)) (W4 w S T U H n k) q.1 q.2 (fun w' b => put1 S T U H n k _ _ _ w' (bk.below b) (bn.below b) (br.below b))
      rw [decide_eq_false (fun e => h ⟨q, e⟩)] at this
      exact this
    · exact ask_bad S T U H n 2 _ _ q
  clear h
  unfold W4 ri at *
  go_enter Tryz.func57, Tryz.ntmps57
  go_wp2_with fail
  refine hask.mono ?_
  rintro r w1 ⟨rfl, b1⟩
  have B1 := keep B0 b1
  have bo1 := bo.below b1
  obtain ⟨c0, c1, c2, c3⟩ := bo1.all4
  obtain ⟨f0, f1, f2, f3⟩ := bo1.fr4
  clear hask br bn bk B0 b1 bo
  go_wp2_with fail
  have y := bo1.store4 (u0 := .int .i64 0) (u1 := .int .i64 0) (u2 := .int .i64 0) (u3 := .int .i64 0)
  have C1 := below4 B1 (by omega : w.heap.size ≤ w.heap.size + 3) (.int .i64 0) (.int .i64 0) (.int .i64 0) (.int .i64 0)
  unfold set4 at y C1
  clear bo1 B1 c0 c1 c2 c3 f0 f1 f2 f3
  obtain ⟨c0, c1, c2, c3⟩ := y.all4
  exact bodyPost_ret (v := .tuple #[.agg (ri 0 0 0 0), .int .i64 0, .int .i64 2]) (by simp only [ri]; simp [results, Tryz.results57, go_sem, c0, c1, c2, c3]) rfl ⟨rfl, C1⟩

theorem ask27_ok (S T U H n k : Int) (w w0 : World) (hR : R S T U H) (h0 : 0 ≤ n) (h1 : 0 ≤ k ∧ k ≤ n ∧ k ≤ H) (g : Nat) (bk : Box w (g + 2) #[.int .i64 k] 3) (bn : Box w (g + 1) #[.int .i64 n] 3) (br : Box w g (ri S T U H) 103) (e : w0 = w) :
    Calls Tryz.prog 81 #[.agg (ri S T U H), .int .i64 n, .func (.func 79) #[] #[pt (g + 2), pt (g + 1), pt g], .int .i64 2] w0 fun r w' => r = .returned (.int .i64 0) ∧ Below w0.heap.size w0 w' := by
  subst e
  have := ask_in27 #[pt (g + 2), pt (g + 1), pt g] S T U H n 2 (decide (0 ≤ k ∧ k ≤ n ∧ k ≤ H)) w0 hR h0 (fun w' b => put1 S T U H n k _ _ _ w' (bk.below b) (bn.below b) (br.below b))
  rw [decide_eq_true h1] at this
  exact this
theorem ask29 (S T U H n k : Int) (w : World) (hR : R S T U H) (h0 : 0 ≤ n) (hn : n ≤ 9223372036854775807) (h1 : 0 ≤ k ∧ k ≤ n ∧ k ≤ H) (g : Nat) (bk : Box w (g + 2) #[.int .i64 k] 3) (bn : Box w (g + 1) #[.int .i64 n] 3) (br : Box w g (ri S T U H) 103) :
    Calls Tryz.prog 81 #[.agg (ri S T U H), .int .i64 n, .func (.func 82) #[] #[pt (g + 1), pt (g + 2), pt g], .int .i64 5] w fun r w' => r = .returned (.int .i64 (if n - k ≤ fr S T U H then 0 else 5)) ∧ Below w.heap.size w w' := by
  have := ask_in29 #[pt (g + 1), pt (g + 2), pt g] S T U H n 5 (decide (n - k ≤ fr S T U H)) w hR h0 (fun w' b => put2 S T U H n k _ _ _ w' h1.1 h1.2.1 hn (bk.below b) (bn.below b) (br.below b))
  simpa using this

theorem put_full (S T U H n k : Int) (w : World) (hR : R S T U H) (h0 : 0 ≤ n) (hn : n ≤ 9223372036854775807) (h1 : 0 ≤ k ∧ k ≤ n ∧ k ≤ H) (h2 : ¬ n - k ≤ fr S T U H) :
    Calls Tryz.prog 57 #[.agg (ri S T U H), .int .i64 n, .int .i64 k] w fun r w' => r = .returned (.tuple #[.agg (ri 0 0 0 0), .int .i64 0, .int .i64 5]) ∧ Below w.heap.size w w' := by
  have br := w4_r w S T U H n k
  have bn := w4_n w S T U H n k
  have bk := w4_k w S T U H n k
  have bo := w4_o w S T U H n k
  have B0 := w4_b w S T U H n k
  have hask := ask27_ok S T U H n k _ _ hR h0 h1 _ bk bn br rfl
  have hask2 := fun u => ask29 S T U H n k u hR h0 hn h1 w.heap.size
  rw [if_neg h2] at hask2
  have A2 : Hid _ := hask2
  clear h2 hask2 hR h1 hn h0
  unfold W4 ri at *
  go_enter Tryz.func57, Tryz.ntmps57
  go_wp2_with fail
  refine hask.mono ?_
  rintro r w1 ⟨rfl, b1⟩
  have B1 := keep B0 b1
  have bo1 := bo.below b1
  have br1 := br.below b1
  have bn1 := bn.below b1
  have bk1 := bk.below b1
  obtain ⟨c0, c1, c2, c3⟩ := br1.all4
  have c := bn1.one
  clear hask br bn bk B0 b1 bo
  go_wp2_with fail
  refine (A2.out _ bk1 bn1 br1).mono ?_
  rintro r w2 ⟨rfl, b2⟩
  have B2 := keep B1 b2
  have bo2 := bo1.below b2
  clear B1 bo1 b2 c0 c1 c2 c3 c br1 bn1 bk1 A2
  obtain ⟨c0, c1, c2, c3⟩ := bo2.all4
  obtain ⟨f0, f1, f2, f3⟩ := bo2.fr4
  go_wp2_with fail
  have y := bo2.store4 (u0 := .int .i64 0) (u1 := .int .i64 0) (u2 := .int .i64 0) (u3 := .int .i64 0)
  have C1 := below4 B2 (by omega : w.heap.size ≤ w.heap.size + 3) (.int .i64 0) (.int .i64 0) (.int .i64 0) (.int .i64 0)
  unfold set4 at y C1
  clear bo2 B2 c0 c1 c2 c3 f0 f1 f2 f3
  obtain ⟨c0, c1, c2, c3⟩ := y.all4
  exact bodyPost_ret (v := .tuple #[.agg (ri 0 0 0 0), .int .i64 0, .int .i64 5]) (by simp only [ri]; simp [results, Tryz.results57, go_sem, c0, c1, c2, c3]) rfl ⟨rfl, C1⟩

set_option maxHeartbeats 1000000 in
theorem put_ok (S T U H n k : Int) (w : World) (hR : R S T U H) (h0 : 0 ≤ n) (h1 : 0 ≤ k ∧ k ≤ n ∧ k ≤ H) (h2 : n - k ≤ fr S T U H) :
    Calls Tryz.prog 57 #[.agg (ri S T U H), .int .i64 n, .int .i64 k] w fun r w' => r = .returned (.tuple #[.agg (ri S T (U + n) (H - k)), .int .i64 ((T + U) % S), .int .i64 0]) ∧ Below w.heap.size w w' := by
  have hn : n ≤ 512 := by
    rw [fr, if_pos hR] at h2
    unfold R at hR
    omega
  have br := w4_r w S T U H n k
  have bn := w4_n w S T U H n k
  have bk := w4_k w S T U H n k
  have bo := w4_o w S T U H n k
  have B0 := w4_b w S T U H n k
  have hask := ask27_ok S T U H n k _ _ hR h0 h1 _ bk bn br rfl
  have hask2 := fun u => ask29 S T U H n k u hR h0 (by omega) h1 w.heap.size
  rw [if_pos h2] at hask2
  have A2 : Hid _ := hask2
  have hb : Hid _ := fun u => behind_at S T U H U u hR.1.1 hR.1.2 hR.2.1.1 (by have := hR.2.1.2; omega) hR.2.2.1.1 hR.2.2.1.2
  obtain ⟨P, hP⟩ : ∃ P, P = (T + U) % S := ⟨_, rfl⟩
  rw [← hP] at hb ⊢
  clear hP hask2 h2
  obtain ⟨q1, q2, q3, q4⟩ := hR
  unfold W4 ri at *
  go_enter Tryz.func57, Tryz.ntmps57
  go_wp2_with fail
  refine hask.mono ?_
  rintro r w1 ⟨rfl, b1⟩
  have B1 := keep B0 b1
  have bo1 := bo.below b1
  have br1 := br.below b1
  have bn1 := bn.below b1
  have bk1 := bk.below b1
  obtain ⟨c0, c1, c2, c3⟩ := br1.all4
  have c := bn1.one
  clear hask br bn bk B0 b1 bo
  go_wp2_with fail
  refine (A2.out _ bk1 bn1 br1).mono ?_
  rintro r w2 ⟨rfl, b2⟩
  have B2 := keep B1 b2
  have bo2 := bo1.below b2
  have br2 := br1.below b2
  have bn2 := bn1.below b2
  have bk2 := bk1.below b2
  clear B1 bo1 b2 c0 c1 c2 c3 c br1 bn1 bk1 A2
  obtain ⟨c0, c1, c2, c3⟩ := br2.all4
  go_wp2_with fail
  refine (hb.out _).mono ?_
  rintro r w3 ⟨rfl, b3⟩
  have B3 := keep B2 b3
  have bo3 := bo2.below b3
  have br3 := br2.below b3
  have bn3 := bn2.below b3
  have bk3 := bk2.below b3
  clear B2 bo2 b3 c0 c1 c2 c3 br2 bn2 bk2 hb
  have f2 := br3.frozen 2
  have br4 : Box (w3.setCell ⟨w.heap.size, 2, none⟩ (.int .i64 (U + n))) w.heap.size #[.int .i64 S, .int .i64 T, .int .i64 (U + n), .int .i64 H] 103 := by simpa using br3.store 2 (.int .i64 (U + n))
  have bo4 := bo3.other (k := w.heap.size) 2 (.int .i64 (U + n)) (by omega)
  have bk4 := bk3.other (k := w.heap.size) 2 (.int .i64 (U + n)) (by omega)
  have B4 := B3.setCell (p := ⟨w.heap.size, 2, none⟩) (Nat.le_refl _) (.int .i64 (U + n))
  have f3 := br4.frozen 3
  have br5 : Box ((w3.setCell ⟨w.heap.size, 2, none⟩ (.int .i64 (U + n))).setCell ⟨w.heap.size, 3, none⟩ (.int .i64 (H - k))) w.heap.size #[.int .i64 S, .int .i64 T, .int .i64 (U + n), .int .i64 (H - k)] 103 := by simpa using br4.store 3 (.int .i64 (H - k))
  have bo5 := bo4.other (k := w.heap.size) 3 (.int .i64 (H - k)) (by omega)
  have B5 := B4.setCell (p := ⟨w.heap.size, 3, none⟩) (Nat.le_refl _) (.int .i64 (H - k))
  obtain ⟨c0, c1, c2, c3⟩ := br3.all4
  obtain ⟨k0, k1, k2, k3⟩ := br4.all4
  have c := bn3.one
  have c' := bk4.one
  obtain ⟨d0, d1, d2, d3⟩ := br5.all4
  obtain ⟨e0, e1, e2, e3⟩ := bo5.all4
  obtain ⟨g0, g1, g2, g3⟩ := bo5.fr4
  clear bo3 br3 bn3 bk3 bo4 br4 bk4 B3 B4 br5
  go_wp2_with fail
  have y := bo5.store4 (u0 := .int .i64 S) (u1 := .int .i64 T) (u2 := .int .i64 (U + n)) (u3 := .int .i64 (H - k))
  have C1 := below4 B5 (by omega : w.heap.size ≤ w.heap.size + 3) (.int .i64 S) (.int .i64 T) (.int .i64 (U + n)) (.int .i64 (H - k))
  unfold set4 at y C1
  clear bo5 B5 c0 c1 c2 c3 c c' f2 f3 k0 k1 k2 k3 d0 d1 d2 d3 e0 e1 e2 e3 g0 g1 g2 g3
  obtain ⟨c0, c1, c2, c3⟩ := y.all4
  exact bodyPost_ret (v := .tuple #[.agg (ri S T (U + n) (H - k)), .int .i64 P, .int .i64 0]) (by simp only [ri]; simp [results, Tryz.results57, go_sem, c0, c1, c2, c3]) rfl ⟨rfl, C1⟩

end Go.Proofs.YtkhejjddmbegaaaGreat.Rg

/-
  Append that is refused: no right group, too great, no room.
-/
namespace Go.Proofs.YtkhejjddmbegaaaGreat.J
open Go.RowKit
open Go.Proofs.YtkhejjddmbegaaaGreat.Dk (Box)

/-- the world behind Append's boxes -/
def ap3 (w : World) (g : Nat) (al : Option Addr) (n cap : Nat) : World := ((w.alloc (.cells #[.pointer (some ⟨g, 0, none⟩)] 72)).alloc (.cells #[.slice al n cap] 38)).alloc (.cells #[.slice none 0 0] 52)
section
variable (w : World) (g : Nat) (al : Option Addr) (n cap : Nat)
theorem ap3_a : Box (ap3 w g al n cap) w.heap.size #[.pointer (some ⟨g, 0, none⟩)] 72 := ((Dk.Box.new w _ 72).alloc _).alloc _
theorem ap3_b : Box (ap3 w g al n cap) (w.heap.size + 1) #[.slice al n cap] 38 := Rg.Box.alloc (Rg.Box.next w _ _ 38) _
theorem ap3_c : Box (ap3 w g al n cap) (w.heap.size + 2) #[.slice none 0 0] 52 := Rg.Box.next2 w _ _ _ 52
theorem ap3_below : Below w.heap.size w (ap3 w g al n cap) := (((Below.refl w.heap.size w).alloc (Nat.le_refl _) _).alloc (by simp) _).alloc (by simp; omega) _
end
theorem ap3_size (w : World) (g : Nat) (al : Option Addr) (n cap : Nat) : (ap3 w g al n cap).heap.size = w.heap.size + 3 := by simp [ap3]
theorem ap3_upd {w : World} {g : Nat} {al : Option Addr} {n cap : Nat} {w' : World} (h : Dk.Upd (· = w.heap.size + 2) (ap3 w g al n cap) w') : Below w.heap.size w w' := by
  have b := ap3_below w g al n cap
  have z := ap3_size w g al n cap
  have z2 := h.size
  exact ⟨h.os.trans b.os, h.tape.trans b.tape, h.output.trans b.output, by omega, fun k hk => (h.block k (by omega) (by show ¬ k = w.heap.size + 2; omega)).trans (b.block k hk)⟩

section
variable {w : World} {g dg n cap : Nat} {al : Option Addr} {vs : Value} {J : JS} {is : List (Int × List UInt8)} (h : Box w g (jC g dg vs J) 105) (hb : J.broken = false) (hl : is.length = n) (hI : Rc.Imgs w al is)
include h hb hl hI
theorem app_ahead_no (hn : n * 32 ≤ 140737488355328) (hno : ¬ Rc.okGroup J.epoch J.next is) :
    Calls Tryz.prog 53 #[.pointer (some ⟨g, 0, none⟩), .func (.func 54) #[] #[.pointer (some ⟨w.heap.size, 0, none⟩), .pointer (some ⟨w.heap.size + 1, 0, none⟩), .pointer (some ⟨w.heap.size + 2, 0, none⟩)]] (ap3 w g al n cap) fun r w' => ∃ e : Int, r = .returned (.int .i64 e) ∧ e = 80 ∧ Below w.heap.size w w' := by
  have b := ap3_below w g al n cap
  have h' : Box (ap3 w g al n cap) g (jC g dg vs J) 105 := h.below b
  refine ahead_in25 h' hb (fun e w' => e = 80 ∧ Below w.heap.size w w') _ ((append1_no h' (ap3_a w g al n cap) (ap3_b w g al n cap) (ap3_c w g al n cap) is hl hn (hI.below b) hno).mono ?_)
  rintro r w' ⟨rfl, hu⟩
  exact ⟨80, rfl, rfl, ap3_upd hu⟩
theorem app_ahead_ok (hok : Rc.okGroup J.epoch J.next is) :
    Calls Tryz.prog 53 #[.pointer (some ⟨g, 0, none⟩), .func (.func 54) #[] #[.pointer (some ⟨w.heap.size, 0, none⟩), .pointer (some ⟨w.heap.size + 1, 0, none⟩), .pointer (some ⟨w.heap.size + 2, 0, none⟩)]] (ap3 w g al n cap) fun r w' => ∃ e : Int, r = .returned (.int .i64 e) ∧ e = (if J.S < (n + 1 : Nat) then 232 else 0) ∧ Puts (ap3 w g al n cap) w' (w.heap.size + 2) n (Rc.putL J.epoch.toNat J.next.toNat is) := by
  have b := ap3_below w g al n cap
  have h' : Box (ap3 w g al n cap) g (jC g dg vs J) 105 := h.below b
  refine ahead_in25 h' hb (fun e w' => e = (if J.S < (n + 1 : Nat) then 232 else 0) ∧ Puts (ap3 w g al n cap) w' (w.heap.size + 2) n (Rc.putL J.epoch.toNat J.next.toNat is)) _ ((append1_ok h' (ap3_a w g al n cap) (ap3_b w g al n cap) (ap3_c w g al n cap) is hl (hI.below b) hok).mono ?_)
  rintro r w' ⟨rfl, hu⟩
  exact ⟨_, rfl, rfl, hu⟩

theorem append_bad (rv : Bool) (hn : n * 32 ≤ 140737488355328) (hno : ¬ Rc.okGroup J.epoch J.next is) :
    Calls Tryz.prog 31 #[.pointer (some ⟨g, 0, none⟩), .slice al n cap, .bool rv] w fun r w' => r = .returned (.tuple #[.int .i64 0, .int .i64 80]) ∧ Below w.heap.size w w' := by
  have ca := app_ahead_no (cap := cap) h hb hl hI hn hno
  go_enter Tryz.func31, Tryz.ntmps31
  go_wp2_with fail
  refine Calls.mono ca ?_
  rintro r w1 ⟨e, rfl, rfl, B⟩
  go_wp2_with fail
  exact bodyPost_ret (v := .tuple #[.int .i64 0, .int .i64 80]) (by simp [results, Tryz.results31, go_sem]) rfl ⟨rfl, B⟩
theorem append_big (rv : Bool) (hok : Rc.okGroup J.epoch J.next is) (hS : J.S < (n + 1 : Nat)) :
    Calls Tryz.prog 31 #[.pointer (some ⟨g, 0, none⟩), .slice al n cap, .bool rv] w fun r w' => r = .returned (.tuple #[.int .i64 0, .int .i64 232]) ∧ Below w.heap.size w w' := by
  have ca := app_ahead_ok (cap := cap) h hb hl hI hok
  rw [if_pos hS] at ca
  go_enter Tryz.func31, Tryz.ntmps31
  go_wp2_with fail
  refine Calls.mono ca ?_
  rintro r w1 ⟨e, rfl, rfl, hu, _⟩
  have B := ap3_upd hu
  go_wp2_with fail
  exact bodyPost_ret (v := .tuple #[.int .i64 0, .int .i64 232]) (by simp [results, Tryz.results31, go_sem]) rfl ⟨rfl, B⟩
end
end Go.Proofs.YtkhejjddmbegaaaGreat.J

/-
  Append that has no room.
-/
namespace Go.Proofs.YtkhejjddmbegaaaGreat.J
open Go.RowKit
open Go.Proofs.YtkhejjddmbegaaaGreat.Dk (Box)

/-- what region 8 of Append loads -/
@[reducible] def R8 (w : World) (g gl n cl : Nat) (J : JS) (u : World) : Prop :=
  u.cell? ⟨w.heap.size, 0, none⟩ = some (.pointer (some ⟨g, 0, none⟩)) ∧ u.cell? ⟨g, 6, none⟩ = some (.int .i64 J.S) ∧ u.cell? ⟨g, 7, none⟩ = some (.int .i64 J.T) ∧ u.cell? ⟨g, 8, none⟩ = some (.int .i64 J.U) ∧ u.cell? ⟨g, 9, none⟩ = some (.int .i64 J.H) ∧ u.cell? ⟨w.heap.size + 2, 0, none⟩ = some (.slice (some ⟨gl, 0, none⟩) (n + 1) cl)

theorem box4 {W : World} {b : Nat} {v0 v1 v2 v3 : Value} (h : Box W b #[v0, v1, v2, v3] 103) : (W.cell? ⟨b, 0, none⟩ = some v0 ∧ W.cell? ⟨b, 1, none⟩ = some v1 ∧ W.cell? ⟨b, 2, none⟩ = some v2 ∧ W.cell? ⟨b, 3, none⟩ = some v3) ∧ W.frozen? ⟨b, 0, none⟩ = false ∧ W.frozen? ⟨b, 1, none⟩ = false ∧ W.frozen? ⟨b, 2, none⟩ = false ∧ W.frozen? ⟨b, 3, none⟩ = false :=
  ⟨⟨h.cell 0, h.cell 1, h.cell 2, h.cell 3⟩, h.frozen 0, h.frozen 1, h.frozen 2, h.frozen 3⟩
theorem below_set4 {B : Nat} {a W : World} (h : Below B a W) {k : Nat} (hk : B ≤ k) (v0 v1 v2 v3 : Value) : Below B a ((((W.setCell ⟨k, 0, none⟩ v0).setCell ⟨k, 1, none⟩ v1).setCell ⟨k, 2, none⟩ v2).setCell ⟨k, 3, none⟩ v3) :=
  (((h.setCell (p := ⟨k, 0, none⟩) hk v0).setCell (p := ⟨k, 1, none⟩) hk v1).setCell (p := ⟨k, 2, none⟩) hk v2).setCell (p := ⟨k, 3, none⟩) hk v3

section
variable {w : World} {g dg n cap : Nat} {al : Option Addr} {vs : Value} {J : JS} {is : List (Int × List UInt8)} (h : Box w g (jC g dg vs J) 105) (hb : J.broken = false) (hl : is.length = n) (hI : Rc.Imgs w al is)
include h hb hl hI
theorem append_full (hok : Rc.okGroup J.epoch J.next is) (hS : ¬ J.S < (n + 1 : Nat)) (hR : Rg.R J.S J.T J.U J.H) (h2 : ¬ ((n + 1 : Nat) : Int) ≤ Rg.fr J.S J.T J.U J.H) :
    Calls Tryz.prog 31 #[.pointer (some ⟨g, 0, none⟩), .slice al n cap, .bool false] w fun r w' => r = .returned (.tuple #[.int .i64 0, .int .i64 5]) ∧ Below w.heap.size w w' := by
  have ca := app_ahead_ok (cap := cap) h hb hl hI hok
  rw [if_neg hS] at ca
  have hn32 : n ≤ 32 := by have := hok.1.2.1; simp at this; omega
  have cp := fun u => Rg.put_full J.S J.T J.U J.H ((n + 1 : Nat) : Int) 0 u hR (by omega) (by omega) ⟨by omega, by omega, by unfold Rg.R at hR; omega⟩ (by omega)
  unfold Rg.ri at cp
  have hlt := h.lt
  have H0 : Hid (Box w g (jC g dg vs J) 105) := h
  clear h hI hok hS hR h2
  go_enter Tryz.func31, Tryz.ntmps31
  go_wp2_with fail
  refine Calls.mono ca ?_
  rintro r w4 ⟨e, rfl, rfl, hu, gl, cl, hbc, _⟩
  have B4 := ap3_upd hu
  have z4 : w.heap.size + 3 ≤ w4.heap.size := by have := hu.size; rwa [ap3_size] at this
  have HS : Hid (∀ u, Below w4.heap.size w4 u → R8 w g gl n cl J u) := fun u bu => by
    have hz := bu.size
    obtain ⟨_, _, _, _, _, _, c6, c7, c8, c9, _, _⟩ := box_cells (H0.out.below B4)
    have ha : Box w4 w.heap.size #[.pointer (some ⟨g, 0, none⟩)] 72 := (hu.block w.heap.size (by rw [ap3_size]; omega) (by show ¬ w.heap.size = w.heap.size + 2; omega)).trans (ap3_a w g al n cap)
    have ca := ha.cell 0
    have cc := hbc.cell 0
    simp at ca cc
    have hg4 : g < w4.heap.size := by omega
    exact ⟨(bu.cell (p := ⟨w.heap.size, 0, none⟩) ha.lt).trans ca, (bu.cell (p := ⟨g, 6, none⟩) hg4).trans c6, (bu.cell (p := ⟨g, 7, none⟩) hg4).trans c7, (bu.cell (p := ⟨g, 8, none⟩) hg4).trans c8, (bu.cell (p := ⟨g, 9, none⟩) hg4).trans c9, (bu.cell (p := ⟨w.heap.size + 2, 0, none⟩) hbc.lt).trans cc⟩
  clear hu hbc ca
  go_wp2_with fail
  go_region_held3 (fun u => u.cell? ⟨w.heap.size, 0, none⟩ = some (.pointer (some ⟨g, 0, none⟩)) ∧ u.cell? ⟨g, 6, none⟩ = some (.int .i64 J.S) ∧ u.cell? ⟨g, 7, none⟩ = some (.int .i64 J.T) ∧ u.cell? ⟨g, 8, none⟩ = some (.int .i64 J.U) ∧ u.cell? ⟨g, 9, none⟩ = some (.int .i64 J.H) ∧ u.cell? ⟨w.heap.size + 2, 0, none⟩ = some (.slice (some ⟨gl, 0, none⟩) (n + 1) cl))
    (first
      | with_reducible exact HS.out _ ((Below.refl w4.heap.size w4).drew)
      | with_reducible exact HS.out _ hb1
      | with_reducible exact HS.out _ (((Below.refl w4.heap.size w4).alloc (Nat.le_refl _) _).drew)
      | with_reducible exact HS.out _ (hb1.alloc hb1.size _)
      | with_reducible exact HS.out _ (below_set4 hb1 (Nat.le_refl _) _ _ _ _))
    (first
      | (go_at_call 57; refine Calls.mono (cp w4.drew) ?_; rintro r W ⟨rfl, hw1⟩; have hb1 : Below w4.heap.size w4 W := (Below.refl w4.heap.size w4).drew.trans hw1)
      | (go_at_call 57; refine Calls.mono (cp (w4.alloc (.cells #[.int .i64 0, .int .i64 0, .int .i64 0, .int .i64 0] 103)).drew) ?_; rintro r W ⟨rfl, hw1⟩; have hb1 : Below w4.heap.size w4 W := ((Below.refl w4.heap.size w4).alloc (Nat.le_refl _) _).drew.trans (hw1.mono (by simp)); have hnb := (hw1.block w4.heap.size (by simp)).trans (Dk.Box.new w4 #[.int .i64 0, .int .i64 0, .int .i64 0, .int .i64 0] 103); obtain ⟨⟨q0, q1, q2, q3⟩, p0, p1, p2, p3⟩ := box4 hnb))
  all_goals
    first
      | have B5 := B4.trans ((below_set4 (k := w4.heap.size) hb1 (Nat.le_refl _) (.int .i64 0) (.int .i64 0) (.int .i64 0) (.int .i64 0)).mono B4.size)
        go_wp2_with fail
        exact bodyPost_ret (v := .tuple #[.int .i64 0, .int .i64 5]) (by simp [results, Tryz.results31, go_sem]) rfl ⟨rfl, B5⟩
      | have B5 := B4.trans ((hb1.alloc hb1.size (.cells #[.int .i64 0, .int .i64 0, .int .i64 0, .int .i64 0] 103)).mono B4.size)
        go_wp2_with fail
        exact bodyPost_ret (v := .tuple #[.int .i64 0, .int .i64 5]) (by simp [results, Tryz.results31, go_sem]) rfl ⟨rfl, B5⟩
end
end Go.Proofs.YtkhejjddmbegaaaGreat.J

/-
  write: the blocks of a group, one behind the other, round the ring.
-/
namespace Go.Proofs.YtkhejjddmbegaaaGreat.J
open Go.RowKit
open Go.Proofs.YtkhejjddmbegaaaGreat.Dk (Box)

/-- the disk, while blocks are written to it: what is its own was so or is new, all else stands -/
def Wr (w : World) (dg : Nat) (F : Nat → Prop) (D : Dk.DS) (u : World) : Prop := ∃ F', Dk.IsDisk u dg D F' ∧ (∀ i, F' i → F i ∨ w.heap.size ≤ i) ∧ Dk.Upd F w u
theorem Wr.drew {w u : World} {dg : Nat} {F : Nat → Prop} {D : Dk.DS} (h : Wr w dg F D u) : Wr w dg F D u.drew := by
  obtain ⟨F', ⟨gd, cd, vu, ps, hl⟩, hF, hu⟩ := h
  exact ⟨F', ⟨gd, cd, vu, ps, hl.kept (fun _ _ => rfl) (Nat.le_refl _)⟩, hF, ⟨hu.os, hu.tape, hu.output, hu.size, hu.block⟩⟩
theorem Wr.cell {w u : World} {dg : Nat} {F : Nat → Prop} {D : Dk.DS} (h : Wr w dg F D u) {p : Addr} (hp : p.block < w.heap.size) (hf : ¬ F p.block) : u.cell? p = w.cell? p := by
  obtain ⟨_, _, _, hu⟩ := h
  exact World.cell?_of_block (hu.block p.block hp hf)

theorem write_step {w u : World} {dg : Nat} {F : Nat → Prop} {D : Dk.DS} (h : Wr w dg F D u) (bn cb : Nat) (ad : Addr) (b : List UInt8) (hb : b.length = 4096) (hbn : bn < D.nb) (hE : D.operE = 0) (hlim : Dk.writeF D)
    (hr : Dk.Rd w (some ad) b) (hF : ¬ F ad.block) :
    Calls Tryz.prog 10 #[.pointer (some ⟨dg, 0, none⟩), .int .i64 (bn : Int), .slice (some ad) 4096 cb] u fun e w' => e = .returned (.int .i64 0) ∧ Wr w dg F { D.oper with uf := D.uf ++ [(bn, b)], n := D.n + 1 } w' := by
  have hc := fun p hp hf => h.cell (p := p) hp hf
  obtain ⟨F', ⟨gd, cd, vu, ps, hl⟩, hF', hu⟩ := h
  have hz := hu.size
  obtain ⟨b', o, e, hcs⟩ := hr (by omega)
  obtain rfl : ad = ⟨b', o, none⟩ := by simpa using e
  have hlt : b' < w.heap.size := block_lt_of_cell (hcs 0 (by omega))
  refine (Dk.write_ok hl bn cb ⟨b', o, none⟩ b hb hbn hE hlim (fun _ => ⟨b', o, rfl, fun j hj => (hc ⟨b', o + j, none⟩ hlt hF).trans (hcs j hj)⟩) (fun hf => ?_)).mono ?_
  · rcases hF' _ hf with h1 | h1
    · exact hF h1
    · dsimp only at h1
      omega
  · rintro e w' ⟨rfl, ⟨F2, hd2, hF2⟩, hu2⟩
    refine ⟨rfl, F2, hd2, fun i hi => ?_, hu.trans hu2 hF'⟩
    rcases hF2 i hi with h1 | h1
    · exact hF' i h1
    · exact .inr (Nat.le_trans hz h1)

/-- n blocks in a list, none of them the disk's -/
def Blk (w : World) (F : Nat → Prop) (b o : Nat) (bs : List (List UInt8)) : Prop :=
  ∀ k (h : k < bs.length), ∃ ad c, w.cell? ⟨b, o + k, none⟩ = some (.slice (some ad) 4096 c) ∧ (bs[k]).length = 4096 ∧ Dk.Rd w (some ad) bs[k] ∧ ¬ F ad.block

end Go.Proofs.YtkhejjddmbegaaaGreat.J

/-
  write: the blocks of a group, one behind the other, round the ring.
-/
namespace Go.Proofs.YtkhejjddmbegaaaGreat.J
open Go.RowKit
open Go.Proofs.YtkhejjddmbegaaaGreat.Dk (Box)

set_option maxRecDepth 100000 in
theorem write_at {w : World} {g dg n c b o : Nat} {vs : Value} {J : JS} {F : Nat → Prop} (Ds : Nat → Dk.DS) (bs : List (List UInt8)) (S f : Nat) (h : Box w g (jC g dg vs J) 105) (hg : ¬ F g) (hS : J.S = S) (hlog : J.log = 2)
    (hd : Dk.IsDisk w dg (Ds 0) F) (hl : bs.length = n) (hn : n ≤ 33) (hB : Blk w F b o bs) (hb : ¬ F b) (hbl : b < w.heap.size) (hS0 : 0 < S) (hS1 : S ≤ 64) (hf : f < S)
    (hst : ∀ k (h : k < bs.length), Ds (k + 1) = { (Ds k).oper with uf := (Ds k).uf ++ [(2 + (f + k) % S, bs[k])], n := (Ds k).n + 1 } ∧ 2 + (f + k) % S < (Ds k).nb ∧ (Ds k).operE = 0 ∧ Dk.writeF (Ds k)) :
    Calls Tryz.prog 58 #[.pointer (some ⟨g, 0, none⟩), .slice (some ⟨b, o, none⟩) n c, .int .i64 (f : Int)] w fun r w' => r = .returned (.int .i64 0) ∧ Wr w dg F (Ds n) w' := by
  obtain ⟨_, c1, c2, _, _, _, c6, _, _, _, _, _⟩ := box_cells h
  rw [hS] at c6
  rw [hlog] at c2
  have hgl := h.lt
  have HC : Hid (∀ u D, Wr w dg F D u → u.cell? ⟨g, 1, none⟩ = some (.pointer (some ⟨dg, 0, none⟩)) ∧ u.cell? ⟨g, 2, none⟩ = some (.int .i64 2) ∧ u.cell? ⟨g, 6, none⟩ = some (.int .i64 (S : Int))) := fun u D hu => ⟨(hu.cell hgl hg).trans c1, (hu.cell hgl hg).trans c2, (hu.cell hgl hg).trans c6⟩
  have HB : Hid (∀ u D, Wr w dg F D u → ∀ k (h : k < bs.length), ∃ ad c, u.cell? ⟨b, o + k, none⟩ = some (.slice (some ad) 4096 c) ∧ (bs[k]).length = 4096 ∧ Dk.Rd w (some ad) bs[k] ∧ ¬ F ad.block) := fun u D hu k hk => by
    obtain ⟨ad, c, h1, h2⟩ := hB k hk
    exact ⟨ad, c, (hu.cell hbl hb).trans h1, h2⟩
  have HT : Hid (∀ k (h : k < bs.length), Ds (k + 1) = { (Ds k).oper with uf := (Ds k).uf ++ [(2 + (f + k) % S, bs[k])], n := (Ds k).n + 1 } ∧ 2 + (f + k) % S < (Ds k).nb ∧ (Ds k).operE = 0 ∧ Dk.writeF (Ds k)) := hst
  have H0 : Hid (Wr w dg F (Ds 0) w) := ⟨F, hd, fun i hi => .inl hi, Dk.Upd.refl F w⟩
  have HL : Hid (bs.length = n) := hl
  clear h hS hlog hd hB hst c1 c2 c6 hl hg hb hbl hgl
  go_enter Tryz.func58, Tryz.ntmps58
  go_wp2_with fail
  go_loopw [13] (fun i wr => ∃ k : Nat, k ≤ n ∧ i = .int .i64 k ∧ Wr w dg F (Ds k) wr) (fun i _ => n - (intOf i).toNat)
  case atStart => exact ⟨0, Nat.zero_le _, rfl, H0.out⟩
  case round =>
    obtain ⟨k, hk, rfl, hw⟩ := hrel
    by_cases hlt : k < n
    · have hk' : k < bs.length := by rw [HL.out]; exact hlt
      obtain ⟨c1, c2, c6⟩ := HC.out wr _ hw
      obtain ⟨ad, ca, cb, h4, hrd, hFa⟩ := HB.out wr _ hw k hk'
      obtain ⟨t1, t2, t3, t4⟩ := HT.out k hk'
      have cW := fun u (hu : Wr w dg F (Ds k) u) => write_step hu (2 + (f + k) % S) ca ad _ h4 t2 t3 t4 hrd hFa
      rw [← t1] at cW
      have em : ((f : Int) + (k : Int)) % (S : Int) = (((f + k) % S : Nat) : Int) := by push_cast; rfl
      have hml : (f + k) % S < S := Nat.mod_lt _ hS0
      generalize (f + k) % S = m at em cW hml
      clear h4 t1 t2 t3 t4 hrd hFa
      have cW' : ∀ u, Wr w dg F (Ds k) u → Calls Tryz.prog 10 #[.pointer (some ⟨dg, 0, none⟩), .int .i64 (2 + (m : Int)), .slice (some ad) 4096 ca] u fun e w' => e = .returned (.int .i64 0) ∧ Wr w dg F (Ds (k + 1)) w' := fun u hu => by
        have q := cW u hu
        push_cast at q
        exact q
      have HS : Hid (∀ u D, Wr w dg F D u → u.cell? ⟨g, 1, none⟩ = some (.pointer (some ⟨dg, 0, none⟩)) ∧ u.cell? ⟨g, 2, none⟩ = some (.int .i64 2)) := fun u D hu => ⟨(HC.out u D hu).1, (HC.out u D hu).2.1⟩
      clear cW
      go_wp2_with fail
      clear c1 c2
      simp only [em]
      clear em
      have hwm : IntKind.i64.wrap (2 + (m : Int)) = 2 + (m : Int) := by rw [IntKind.wrap_i64]; omega
      go_region_held3 (fun u => u.cell? ⟨g, 1, none⟩ = some (.pointer (some ⟨dg, 0, none⟩)) ∧ u.cell? ⟨g, 2, none⟩ = some (.int .i64 2))
        (first | with_reducible exact HS.out _ _ hw.drew | with_reducible exact HS.out _ _ hw1)
        (first
          | (go_at_call 10; refine Calls.mono (cW' _ hw.drew) ?_; rintro r W ⟨rfl, hw1⟩)
          | (go_at_call 85; refine Calls.mono (asked_ok g W) ?_; rintro r W2 ⟨rfl, rfl⟩))
      go_wp2_with fail
      go_roundw
      case rel => exact ⟨k + 1, by omega, by push_cast; rfl, hw1⟩
      case measure => simp [intOf]; omega
    · obtain rfl : k = n := by omega
      go_wp2_with fail
      go_ret
      exact ⟨rfl, hw⟩
end Go.Proofs.YtkhejjddmbegaaaGreat.J

/-
  A journal with its disk and its groups' sizes; what a call leaves of it.
-/
namespace Go.Proofs.YtkhejjddmbegaaaGreat.J
open Go.RowKit
open Go.Proofs.YtkhejjddmbegaaaGreat.Dk (Box)

/-- whole numbers as cells -/
def ics (xs : List Int) : List Value := xs.map fun x => .int .i64 x
theorem ics_snoc (xs : List Int) (x : Int) : ics (xs ++ [x]) = ics xs ++ [.int .i64 x] := by simp [ics]

/-- a journal at g, its disk at dg, its groups' sizes xs; F: all blocks that are its own -/
structure JD (w : World) (g dg : Nat) (J : JS) (xs : List Int) (D : Dk.DS) (F : Nat → Prop) : Prop where
  ex : ∃ vs Fd, Box w g (jC g dg vs J) 105 ∧ Dk.IsDisk w dg D Fd ∧ ¬ Fd g ∧ w.ownsRow 0 3 1 vs xs.length (ics xs) ∧ (∀ k, vs.ownBlock = some k → ¬ Fd k ∧ F k) ∧ (∀ i, Fd i → F i)
  fg : F g
  flt : ∀ i, F i → i < w.heap.size

/-- behind w the journal is so; what is its own was so or is new, all else stands -/
def JTo (w : World) (F : Nat → Prop) (g dg : Nat) (J : JS) (xs : List Int) (D : Dk.DS) (u : World) : Prop := ∃ F', JD u g dg J xs D F' ∧ (∀ i, F' i → F i ∨ w.heap.size ≤ i) ∧ Dk.Upd F w u

theorem owns_kept {w w' : World} {B e size n : Nat} {v : Value} {xs : List Value} (h : w.ownsRow B e size v n xs) (hk : ∀ k, v.ownBlock = some k → w'.heap[k]? = w.heap[k]?) : w'.ownsRow B e size v n xs := by
  refine ⟨h.1, ?_⟩
  rcases h.2 with hn | ⟨g, cap, cur, rfl, hb, hg, r⟩
  · exact .inl hn
  · exact .inr ⟨g, cap, cur, rfl, hb, (hk g rfl).trans hg, r⟩
theorem disk_kept {w w' : World} {g : Nat} {D : Dk.DS} {F : Nat → Prop} (h : Dk.IsDisk w g D F) (hk : ∀ i, F i → w'.heap[i]? = w.heap[i]?) (hs : w.heap.size ≤ w'.heap.size) : Dk.IsDisk w' g D F := by
  obtain ⟨gd, cd, vu, ps, hl⟩ := h
  exact ⟨gd, cd, vu, ps, hl.kept hk hs⟩

theorem JD.kept {w w' : World} {g dg : Nat} {J : JS} {xs : List Int} {D : Dk.DS} {F : Nat → Prop} (h : JD w g dg J xs D F) (hk : ∀ i, F i → w'.heap[i]? = w.heap[i]?) (hs : w.heap.size ≤ w'.heap.size) : JD w' g dg J xs D F := by
  obtain ⟨⟨vs, Fd, h1, h2, h3, h4, h5, h6⟩, h7, h8⟩ := h
  exact ⟨⟨vs, Fd, (hk g h7).trans h1, disk_kept h2 (fun i hi => hk i (h6 i hi)) hs, h3, owns_kept h4 (fun k hk' => hk k (h5 k hk').2), h5, h6⟩, h7, fun i hi => Nat.lt_of_lt_of_le (h8 i hi) hs⟩
theorem JD.below {w w' : World} {g dg : Nat} {J : JS} {xs : List Int} {D : Dk.DS} {F : Nat → Prop} (h : JD w g dg J xs D F) {B : Nat} (hB : ∀ i, F i → i < B) (b : Below B w w') (hs : w.heap.size ≤ w'.heap.size) : JD w' g dg J xs D F := h.kept (fun i hi => b.block i (hB i hi)) hs
theorem JTo.refl {w : World} {g dg : Nat} {J : JS} {xs : List Int} {D : Dk.DS} {F : Nat → Prop} (h : JD w g dg J xs D F) : JTo w F g dg J xs D w := ⟨F, h, fun _ hi => .inl hi, Dk.Upd.refl F w⟩
/-- two calls, one behind the other -/
theorem JTo.trans {w u v : World} {g dg : Nat} {J : JS} {xs : List Int} {D : Dk.DS} {F F' : Nat → Prop} (hF : ∀ i, F' i → F i ∨ w.heap.size ≤ i) (hu : Dk.Upd F w u) (h : JTo u F' g dg J xs D v) : JTo w F g dg J xs D v := by
  obtain ⟨F2, h1, h2, h3⟩ := h
  have hz := hu.size
  refine ⟨F2, h1, fun i hi => ?_, hu.trans h3 hF⟩
  rcases h2 i hi with h | h
  · exact hF i h
  · exact .inr (by omega)
theorem upd_below {F : Nat → Prop} {w u : World} (b : Below w.heap.size w u) : Dk.Upd F w u := ⟨b.os, b.tape, b.output, b.size, fun k hk _ => b.block k hk⟩
theorem JTo.of_below {w u : World} {g dg : Nat} {J : JS} {xs : List Int} {D : Dk.DS} {F : Nat → Prop} (h : JD w g dg J xs D F) (b : Below w.heap.size w u) : JTo w F g dg J xs D u := ⟨F, h.below h.flt b b.size, fun _ hi => .inl hi, upd_below b⟩

/-- nothing stops the disk -/
def Calm (D : Dk.DS) : Prop := D.gone = false ∧ D.arm.set = false ∧ D.fail.set = false
theorem Calm.oper {D : Dk.DS} (h : Calm D) : D.oper = D := by
  obtain ⟨nb, dur, uf, n, gone, ⟨s1, l1⟩, ⟨s2, l2⟩⟩ := D
  obtain ⟨h1, h2, h3⟩ := h
  dsimp only at h1 h2 h3
  subst h1 h2 h3
  simp [Dk.DS.oper, Dk.Fuse.stops, Dk.Fuse.then]
theorem Calm.operE {D : Dk.DS} (h : Calm D) : D.operE = 0 := by
  obtain ⟨h1, h2, h3⟩ := h
  simp [Dk.DS.operE, Dk.Fuse.stops, h1, h2, h3]
theorem calm_new (nb : Nat) (d : List UInt8) : Calm (Dk.DS.new nb d) := ⟨rfl, rfl, rfl⟩
theorem Calm.flush {D : Dk.DS} (h : Calm D) : D.flush = { D with dur := D.image, uf := [] } ∧ Calm D.flush := by
  have e : D.flush = { D with dur := D.image, uf := [] } := by rw [Dk.DS.flush, if_pos h.operE, h.oper]
  exact ⟨e, by rw [e]; exact h⟩

/-- the writes of the first k blocks, from the place f on round the ring -/
def wrs (S f : Nat) (bs : List (List UInt8)) (k : Nat) : List (Nat × List UInt8) := (List.range k).map fun i => (2 + (f + i) % S, bs.getD i [])
theorem wrs_succ (S f : Nat) (bs : List (List UInt8)) (k : Nat) (h : k < bs.length) : wrs S f bs (k + 1) = wrs S f bs k ++ [(2 + (f + k) % S, bs[k])] := by simp [wrs, List.range_succ, h]
theorem wrs_length (S f : Nat) (bs : List (List UInt8)) (k : Nat) : (wrs S f bs k).length = k := by simp [wrs]
/-- the disk behind k of them -/
def grow (D : Dk.DS) (S f : Nat) (bs : List (List UInt8)) (k : Nat) : Dk.DS := { D with uf := D.uf ++ wrs S f bs k, n := D.n + k }
theorem grow_zero (D : Dk.DS) (S f : Nat) (bs : List (List UInt8)) : grow D S f bs 0 = D := by simp [grow, wrs]
theorem grow_calm {D : Dk.DS} (h : Calm D) (S f : Nat) (bs : List (List UInt8)) (k : Nat) : Calm (grow D S f bs k) := h
theorem grow_succ {D : Dk.DS} (hc : Calm D) (S f : Nat) (bs : List (List UInt8)) (k : Nat) (h : k < bs.length) :
    grow D S f bs (k + 1) = { (grow D S f bs k).oper with uf := (grow D S f bs k).uf ++ [(2 + (f + k) % S, bs[k])], n := (grow D S f bs k).n + 1 } := by
  rw [(grow_calm hc S f bs k).oper]
  simp only [grow, wrs_succ S f bs k h, List.append_assoc, Nat.add_assoc]

theorem box_ring {w : World} {g dg : Nat} {vs : Value} {J : JS} (h : Box w g (jC g dg vs J) 105) (S T U H : Int) :
    Box ((((w.setCell ⟨g, 6, none⟩ (.int .i64 S)).setCell ⟨g, 7, none⟩ (.int .i64 T)).setCell ⟨g, 8, none⟩ (.int .i64 U)).setCell ⟨g, 9, none⟩ (.int .i64 H)) g (jC g dg vs { J with S := S, T := T, U := U, H := H }) 105 := by
  have q := (((h.store 6 (.int .i64 S)).store 7 (.int .i64 T)).store 8 (.int .i64 U)).store 9 (.int .i64 H)
  simpa [jC] using q
theorem box_sizes {w : World} {g dg : Nat} {vs : Value} {J : JS} (h : Box w g (jC g dg vs J) 105) (v : Value) : Box (w.setCell ⟨g, 10, none⟩ v) g (jC g dg v J) 105 := by
  have q := h.store 10 v
  simpa [jC] using q
theorem box_next {w : World} {g dg : Nat} {vs : Value} {J : JS} (h : Box w g (jC g dg vs J) 105) (x : Int) : Box (w.setCell ⟨g, 4, none⟩ (.int .i64 x)) g (jC g dg vs { J with next := x }) 105 := by
  have q := h.store 4 (.int .i64 x)
  simpa [jC] using q
theorem box_synced {w : World} {g dg : Nat} {vs : Value} {J : JS} (h : Box w g (jC g dg vs J) 105) (x : Int) : Box (w.setCell ⟨g, 5, none⟩ (.int .i64 x)) g (jC g dg vs { J with synced := x }) 105 := by
  have q := h.store 5 (.int .i64 x)
  simpa [jC] using q
/-- a cell of g is written: the others stand -/
theorem upd_set {F : Nat → Prop} {w u : World} (h : Dk.Upd F w u) (g j : Nat) (hp : F g ∨ w.heap.size ≤ g) (v : Value) : Dk.Upd F w (u.setCell ⟨g, j, none⟩ v) := by
  have s := Dk.grown_store u g j v
  have hz := h.size
  refine ⟨s.os.trans h.os, s.tape.trans h.tape, s.output.trans h.output, Nat.le_trans hz s.size, fun k hk hf => (s.block k (by omega) (fun e => ?_)).trans (h.block k hk hf)⟩
  injection e with e
  subst e
  rcases hp with h1 | h1
  · exact hf h1
  · omega
end Go.Proofs.YtkhejjddmbegaaaGreat.J

/-
  The reader of a ring: where it stands, and the block there.
-/
namespace Go.Proofs.YtkhejjddmbegaaaGreat.S
open Go.RowKit
open Go.Proofs.YtkhejjddmbegaaaGreat.Dk (Box)

/-- a reader of a disk of 64 blocks -/
def rC (dg : Nat) (B E S t : Int) : Array Value := #[.pointer (some ⟨dg, 0, none⟩), .int .i64 64, .int .i64 2, .int .i64 16, .int .i64 18, .int .i64 19, .int .i64 4, .int .i64 23, .int .i64 B, .int .i64 E, .int .i64 S, .int .i64 t]
theorem r_cells {w : World} {g dg : Nat} {B E S t : Int} (h : Box w g (rC dg B E S t) 65) :
    w.cell? ⟨g, 0, none⟩ = some (.pointer (some ⟨dg, 0, none⟩)) ∧ w.cell? ⟨g, 1, none⟩ = some (.int .i64 64) ∧ w.cell? ⟨g, 2, none⟩ = some (.int .i64 2) ∧ w.cell? ⟨g, 3, none⟩ = some (.int .i64 16) ∧ w.cell? ⟨g, 4, none⟩ = some (.int .i64 18) ∧ w.cell? ⟨g, 5, none⟩ = some (.int .i64 19) ∧ w.cell? ⟨g, 6, none⟩ = some (.int .i64 4) ∧ w.cell? ⟨g, 7, none⟩ = some (.int .i64 23) ∧ w.cell? ⟨g, 8, none⟩ = some (.int .i64 B) ∧ w.cell? ⟨g, 9, none⟩ = some (.int .i64 E) ∧ w.cell? ⟨g, 10, none⟩ = some (.int .i64 S) ∧ w.cell? ⟨g, 11, none⟩ = some (.int .i64 t) :=
  ⟨h.cell 0, h.cell 1, h.cell 2, h.cell 3, h.cell 4, h.cell 5, h.cell 6, h.cell 7, h.cell 8, h.cell 9, h.cell 10, h.cell 11⟩

theorem within_at (n a b : Int) (w : World) :
    Calls Tryz.prog 70 #[.int .i64 n, .int .i64 a, .int .i64 b] w fun r w' => r = .returned (.bool (decide (a ≤ n ∧ n ≤ b))) ∧ w = w' := by
  by_cases h1 : a ≤ n
  · by_cases h2 : n ≤ b
    · rw [decide_eq_true ⟨h1, h2⟩]
      go_enter Tryz.func70, Tryz.ntmps70
      go_wp2
      go_ret
      exact ⟨rfl, rfl⟩
    · rw [decide_eq_false (fun h => h2 h.2)]
      go_enter Tryz.func70, Tryz.ntmps70
      go_wp2
      go_ret
      exact ⟨rfl, rfl⟩
  · rw [decide_eq_false (fun h => h1 h.1)]
    go_enter Tryz.func70, Tryz.ntmps70
    go_wp2
    go_ret
    exact ⟨rfl, rfl⟩

theorem place_at (dg t b : Nat) (B E S : Int) (w : World) (ht : t < 16) (hb : b ≤ 1000) :
    Calls Tryz.prog 27 #[.agg (rC dg B E S (t : Int)), .int .i64 (b : Int)] w fun r w' => r = .returned (.int .i64 (((t + b) % 16 : Nat) : Int)) ∧ Below w.heap.size w w' := by
  have B0 := (Below.refl w.heap.size w).alloc (Nat.le_refl _) (.cells (rC dg B E S (t : Int)) 65)
  have e : (((t + b) % 16 : Nat) : Int) = ((t : Int) + (b : Int)) % 16 := by push_cast; rfl
  rw [e]
  clear e
  unfold rC at B0 ⊢
  go_enter Tryz.func27, Tryz.ntmps27
  go_wp2_with fail
  go_ret
  exact ⟨rfl, B0⟩

/-- what a block's reading needs -/
@[reducible] def R12 (w : World) (dg : Nat) (B E S t : Int) (u : World) : Prop :=
  u.cell? ⟨w.heap.size, 0, none⟩ = some (.pointer (some ⟨dg, 0, none⟩)) ∧ u.cell? ⟨w.heap.size, 1, none⟩ = some (.int .i64 64) ∧ u.cell? ⟨w.heap.size, 2, none⟩ = some (.int .i64 2) ∧ u.cell? ⟨w.heap.size, 3, none⟩ = some (.int .i64 16) ∧ u.cell? ⟨w.heap.size, 4, none⟩ = some (.int .i64 18) ∧ u.cell? ⟨w.heap.size, 5, none⟩ = some (.int .i64 19) ∧ u.cell? ⟨w.heap.size, 6, none⟩ = some (.int .i64 4) ∧ u.cell? ⟨w.heap.size, 7, none⟩ = some (.int .i64 23) ∧ u.cell? ⟨w.heap.size, 8, none⟩ = some (.int .i64 B) ∧ u.cell? ⟨w.heap.size, 9, none⟩ = some (.int .i64 E) ∧ u.cell? ⟨w.heap.size, 10, none⟩ = some (.int .i64 S) ∧ u.cell? ⟨w.heap.size, 11, none⟩ = some (.int .i64 t)

set_option maxHeartbeats 4000000 in
theorem block_at {w : World} {dg : Nat} {D : Dk.DS} {F : Nat → Prop} (hd : Dk.IsDisk w dg D F) (hnb : D.nb = 64) (hg : D.gone = false) (hlim : D.uf.length ≤ 1000000) (B E S : Int) (t b : Nat) (ht : t < 16) (hb : b ≤ 1000) :
    Calls Tryz.prog 71 #[.agg (rC dg B E S (t : Int)), .int .i64 (b : Int)] w fun r w' => ∃ gr cr, r = .returned (.tuple #[.slice (some ⟨gr, 0, none⟩) 4096 cr, .int .i64 0]) ∧ w.heap.size ≤ gr ∧ Rc.RowB w' gr cr (D.stand (2 + (t + b) % 16)) ∧ Below w.heap.size w w' := by
  have al := (Below.refl w.heap.size w).alloc (Nat.le_refl _) (.cells (rC dg B E S (t : Int)) 65)
  have x0 := Dk.Box.new w (rC dg B E S (t : Int)) 65
  have hm : (t + b) % 16 < 16 := Nat.mod_lt _ (by decide)
  have HS : Hid (∀ u, Below (w.alloc (.cells (rC dg B E S (t : Int)) 65)).heap.size (w.alloc (.cells (rC dg B E S (t : Int)) 65)) u → R12 w dg B E S (t : Int) u) := fun u bu => r_cells (x0.below bu)
  have HR : Hid (∀ u, Below w.heap.size w u → Calls Tryz.prog 9 #[.pointer (some ⟨dg, 0, none⟩), .int .i64 (2 + (((t + b) % 16 : Nat) : Int))] u fun e w' => ∃ gr cr, e = .returned (.tuple #[.slice (some ⟨gr, 0, none⟩) 4096 cr, .int .i64 0]) ∧ u.heap.size ≤ gr ∧ Dk.RowB w' gr cr (D.stand (2 + (t + b) % 16)) ∧ Below u.heap.size u w') := fun u bu => by
    have hd' : Dk.IsDisk u dg D F := by
      obtain ⟨gd, cd, vu, ps, hl⟩ := hd
      exact ⟨gd, cd, vu, ps, hl.kept (fun i hi => bu.block i (hl.flt i hi)) bu.size⟩
    have c := Dk.read_at hd' (2 + (t + b) % 16) (by omega) hg hlim
    have e : ((2 + (t + b) % 16 : Nat) : Int) = 2 + (((t + b) % 16 : Nat) : Int) := by omega
    rw [e] at c
    exact c
  have HP : Hid (∀ u, Calls Tryz.prog 27 #[.agg (rC dg B E S (t : Int)), .int .i64 (b : Int)] u fun r w' => r = .returned (.int .i64 (((t + b) % 16 : Nat) : Int)) ∧ Below u.heap.size u w') := fun u => place_at dg t b B E S u ht hb
  generalize D.stand (2 + (t + b) % 16) = X at HR ⊢
  generalize (t + b) % 16 = p at HR HP hm
  have hwp : IntKind.i64.wrap (2 + (p : Int)) = 2 + (p : Int) := by rw [IntKind.wrap_i64]; omega
  have HAL : Hid (Below w.heap.size w (w.alloc (.cells (rC dg B E S (t : Int)) 65))) := al
  clear hd x0 al
  unfold rC at HS HP HAL ⊢
  go_enter Tryz.func71, Tryz.ntmps71
  go_wp2_with fail
  generalize hW : w.alloc (.cells #[.pointer (some ⟨dg, 0, none⟩), .int .i64 64, .int .i64 2, .int .i64 16, .int .i64 18, .int .i64 19, .int .i64 4, .int .i64 23, .int .i64 B, .int .i64 E, .int .i64 S, .int .i64 (t : Int)] 65) = W at HS HAL ⊢
  clear hW
  go_region_held3 (fun u => u.cell? ⟨w.heap.size, 0, none⟩ = some (.pointer (some ⟨dg, 0, none⟩)) ∧ u.cell? ⟨w.heap.size, 1, none⟩ = some (.int .i64 64) ∧ u.cell? ⟨w.heap.size, 2, none⟩ = some (.int .i64 2) ∧ u.cell? ⟨w.heap.size, 3, none⟩ = some (.int .i64 16) ∧ u.cell? ⟨w.heap.size, 4, none⟩ = some (.int .i64 18) ∧ u.cell? ⟨w.heap.size, 5, none⟩ = some (.int .i64 19) ∧ u.cell? ⟨w.heap.size, 6, none⟩ = some (.int .i64 4) ∧ u.cell? ⟨w.heap.size, 7, none⟩ = some (.int .i64 23) ∧ u.cell? ⟨w.heap.size, 8, none⟩ = some (.int .i64 B) ∧ u.cell? ⟨w.heap.size, 9, none⟩ = some (.int .i64 E) ∧ u.cell? ⟨w.heap.size, 10, none⟩ = some (.int .i64 S) ∧ u.cell? ⟨w.heap.size, 11, none⟩ = some (.int .i64 (t : Int)))
    (first | with_reducible exact HS.out _ ((Below.refl W.heap.size W).drew) | with_reducible exact HS.out _ B2 | with_reducible exact HS.out _ B1)
    (first
      | (go_at_call 27; refine Calls.mono (HP.out W.drew) ?_; rintro r u1 ⟨rfl, hw1⟩; have B1 : Below W.heap.size W u1 := ((Below.refl W.heap.size W).drew).trans hw1)
      | (go_at_call 9; refine Calls.mono (HR.out u1 (HAL.out.trans (B1.mono HAL.out.size))) ?_; rintro r u2 ⟨gr, cr, rfl, hgr, hrow, hw2⟩; have B2 : Below W.heap.size W u2 := B1.trans (hw2.mono B1.size)))
  have z1 := HAL.out.size
  have z2 := B1.size
  go_wp2_with fail
  exact bodyPost_ret (v := .tuple #[.slice (some ⟨gr, 0, none⟩) 4096 cr, .int .i64 0]) (by simp [results, Tryz.results71, go_sem]) rfl ⟨gr, cr, rfl, by omega, hrow, HAL.out.trans (B2.mono HAL.out.size)⟩
end Go.Proofs.YtkhejjddmbegaaaGreat.S

/-
  A range over a function that tells, of what it hands on, more than its value: what lies in memory there (A). The body is left by its end alone.
-/
namespace Go.Proofs.YtkhejjddmbegaaaGreat.S
open Go.RowKit

section
variable {F : Fence} {n : Nat} {P : Program}
/-- how a round's body is left: by its end -/
def endPost {α : Type} (B : Nat) (Kp : World → World → Prop) (I : List α → World → Prop) (xs : List α) (W : World) : Exit → Act → World → Prop
  | .normal, _, W' => KeepsFrom B W W' ∧ Kp W W' ∧ I xs W'
  | _, _, _ => False

/-- what the function that is ranged over keeps: of each x that is handed on A holds, in the world in which it is handed on -/
def Hands {α : Type} (F : Fence) (n : Nat) (P : Program) (gf : Nat) (lb : Array Value) (encs : α → Array Value) (A : List α → α → World → Prop) (Kp : World → World → Prop) (R : List α → Prop) (w : World) : Prop :=
  ∀ (l : Nat) (J : List α → World → Prop) (W : World), Below w.heap.size w W → AbidesFrom W.heap.size J →
    (∀ pre x W1, J pre W1 → A pre x W1 → YieldAt F (n - 1) P l (encs x) W1 fun e W' => e = .returned (.bool true) ∧ J (pre ++ [x]) W' ∧ Kp W1 W') → J [] W →
    CallsIn F n P gf (#[.func (.yield l) #[] #[]] ++ lb) W fun e W' => (∃ v, e = .returned v) ∧ ∃ xs, R xs ∧ J xs W'

theorem wpIn_range_told {α : Type} {g : Operand} {ps : Array Tmp} {assign body : Code} {Q : Exit → Act → World → Prop} {a : Act} {w w0 : World} (hro : F.round = none) (h1 : 1 ≤ n) {gf : Nat} {lb : Array Value} (hg : a.eval g = .func (.func gf) #[] lb) (hFg : F.fn gf)
    (eg : ∀ args w, (callFunc gf args).run P w = .ok (.enter gf args) w) {encs : α → Array Value} {A : List α → α → World → Prop} {Kp : World → World → Prop} {R : List α → Prop} (hseq : Hands F (n - 1) P gf lb encs A Kp R w0) (hb0 : Below w0.heap.size w0 w)
    (hKt : ∀ {A B C : World}, Kp A B → Kp B C → Kp A C) (hKb : ∀ (W : World) (l : Nat) (o o' : Obj), w.heap.size ≤ l → W.heap[l]? = some o → o.isCells = false → o.isWalk = false → Kp W (W.putObj l o')) (hps : ∀ x, (encs x).size = ps.size)
    (I : List α → World → Prop) (hI : OwnFrom w.heap.size I) (h0 : I [] w) (Ax : List α → α → Act → World → Prop) (hAx : ∀ pre x a', OwnFrom w.heap.size (fun (_ : Unit) W => Ax pre x a' W))
    (hassign : ∀ (l : Nat) (pre : List α) (x : α) (W : World) (K : Act → World → Prop), I pre W → A pre x W → (∀ a' W', KeepsFrom w.heap.size W W' → Kp W W' → I pre W' → Ax pre x a' W' → K a' W') →
      assign.wpIn (F.inRound l) (n - 1 - 1) P (Exit.then K (fun _ _ _ => False)) { tmps := (ps.zip (encs x)).foldl (fun t (p, v) => t.setIfInBounds p v) a.tmps, defers := [] } W)
    (hbody : ∀ (l : Nat) (pre : List α) (x : α) (a' : Act) (W : World), w.heap.size ≤ l → (∃ r, W.heap[l]? = some (.loop r)) → I pre W → Ax pre x a' W → body.wpIn (F.inRound l) (n - 1 - 1) P (endPost w.heap.size Kp I (pre ++ [x]) W) a' W)
    (hdone : ∀ (D : Nat) (xs : List α) (W : World), w.heap.size ≤ D → R xs → I xs W → W.heap[D]? = some (.deferred (some [])) → Q .normal { a with defers := { target := .collected D, args := #[] } :: a.defers } W) :
    (Code.rangeFunc g ps assign body).wpIn F n P Q a w := by
  refine wpIn_rangeFunc fun fn hfn => ?_
  rw [hro]
  obtain ⟨rec, hrec⟩ : ∃ rec : LoopState → Option Code → Loop, rec = fun st pe => { state := st, pending := pe, fn, tmps := a.tmps, params := ps, assign, body, defers := w.heap.size } := ⟨_, rfl⟩
  obtain ⟨W1, hW1⟩ : ∃ W1, (w.alloc (.deferred (some []))).alloc (.loop (rec .ready none)) = W1 := ⟨_, rfl⟩
  have z1 : W1.heap.size = w.heap.size + 2 := by rw [← hW1]; simp
  have hL1 : W1.heap[w.heap.size + 1]? = some (.loop (rec .ready none)) := by
    have h := heap_alloc_new (w.alloc (.deferred (some []))) (.loop (rec .ready none))
    rw [hW1] at h
    simpa using h
  have hK1 : W1.heap[w.heap.size]? = some (.deferred (some [])) := by
    rw [← hW1]
    exact (Below.heap_alloc _ _ _ (by simp)).trans (heap_alloc_new w _)
  have hI1 : I [] W1 := by rw [← hW1]; exact hI.alloc _ (hI.alloc _ h0)
  have hb1 : Below w0.heap.size w0 W1 := by
    rw [← hW1]
    exact hb0.trans ((((Below.refl _ w).alloc (Nat.le_refl _) _).alloc (by simp) _).mono hb0.size)
  refine ⟨w.heap.size + 1, [{ target := .collected w.heap.size, args := #[] }], W1, { target := .fn (.func gf) lb, args := #[.func (.yield (w.heap.size + 1)) #[] #[]] }, W1, gf, #[.func (.yield (w.heap.size + 1)) #[] #[]] ++ lb, W1, ?_, ?_, ?_, ?_, fun _ => h1, ?_⟩
  · rw [← hW1, hrec]
    exact run_enterLoop_outer _ _ _ _ _
  · simp only [resolve, hg]
    simp [go_sem]
  · intro f' hf'
    simp [Target.leads] at hf'
    subst hf'
    exact hFg
  · simp [invoke, go_sem, eg]
  have own : ∀ {A B : World} {row : Option Nat}, (∀ r, row = some r → W1.heap.size ≤ r ∧ ∃ o : Obj, A.heap[r]? = some o ∧ o.isWalk = true) → (∀ r, row = some r → w.heap.size ≤ r ∧ ∃ o : Obj, A.heap[r]? = some o ∧ o.isCells = false) := fun hr r e => by
    obtain ⟨hB, o, ho, hw⟩ := hr r e
    exact ⟨by omega, o, ho, Obj.not_cells_of_walk hw⟩
  refine (hseq (w.heap.size + 1) (fun pre W => I pre W ∧ W.heap[w.heap.size + 1]? = some (.loop (rec .ready none)) ∧ W.heap[w.heap.size]? = some (.deferred (some []))) W1 hb1
    (fun s A B row hs hg' hr => ⟨hI s A B row hs.1 hg' (own (B := B) hr), (grownBy_keeps hg' (fun r e => (hr r e).2) hs.2.1 rfl).trans hs.2.1, (grownBy_keeps hg' (fun r e => (hr r e).2) hs.2.2 rfl).trans hs.2.2⟩) ?_ ⟨hI1, hL1, hK1⟩).mono ?_
  · rintro pre x W ⟨hi, hl, hk⟩ hAW
    have hy := run_yield (P := P) (args := encs x) hl (by rw [hrec]; exact hps x)
    rw [hrec] at hy
    refine ⟨fn, _, assign, body, hy, roundIn_of_wpIn hfn (hassign _ pre x W _ hi hAW fun a' Wa hf hp hi' hax => ?_)⟩
    have hl' := hf.same _ _ (by omega) hl rfl
    have hk' := hf.same _ _ (Nat.le_refl _) hk rfl
    have hlt : w.heap.size + 1 < Wa.heap.size := (Array.getElem?_eq_some_iff.1 hl').1
    refine ⟨_, run_beginRound hl' (by rw [hrec]), ?_⟩
    have hl2 : (Wa.putObj (w.heap.size + 1) (.loop { rec .ready none with state := .busy })).heap[w.heap.size + 1]? = some (.loop { rec .ready none with state := .busy }) := World.putObj_heap_same hlt
    have hk2 : (Wa.putObj (w.heap.size + 1) (.loop { rec .ready none with state := .busy })).heap[w.heap.size]? = some (.deferred (some [])) := (World.putObj_heap_other (by omega)).trans hk'
    refine wpIn_mono (hbody _ pre x a' _ (by omega) ⟨_, hl2⟩ (hI.putObj _ hi' (by omega) hl' rfl) ((hAx pre x a').putObj (s := ()) _ hax (by omega) hl' rfl)) ?_
    rintro e a3 W3 hq
    cases e with
    | normal =>
      obtain ⟨hk3, hp3, hi3⟩ := hq
      have hl3 := hk3.same _ _ (by omega) hl2 rfl
      have hd3 := hk3.same _ _ (Nat.le_refl _) hk2 rfl
      have hr3 := run_endRound (P := P) none hl3
      have hlt3 := (Array.getElem?_eq_some_iff.1 hl3).1
      refine ⟨_, _, hr3, rfl, ⟨hI.putObj _ hi3 (by omega) hl3 rfl, ?_, (World.putObj_heap_other (by omega)).trans hd3⟩, hKt hp (hKt (hKt (hKb _ _ _ _ (by omega) hl' rfl rfl) hp3) (hKb _ _ _ _ (by omega) hl3 rfl rfl))⟩
      rw [hrec]
      exact World.putObj_heap_same hlt3
    | ret => exact hq.elim
    | exit id => exact hq.elim
    | goto t => exact hq.elim
    | panic ch => exact hq.elim
    | outgrown => exact hq.elim
  · rintro e W2 ⟨⟨v, rfl⟩, xs, hR, hi, hl, hk⟩
    have hE := run_endLoop (P := P) hl (by rw [hrec]; simp)
    have hpn : (rec LoopState.ready none).pending = none := by rw [hrec]
    rw [hpn] at hE
    refine ⟨none, _, hE, hdone _ xs _ (Nat.le_refl _) hR (hI.putObj _ hi (by omega) hl rfl) ((World.putObj_heap_other (by omega)).trans hk)⟩
end
end Go.Proofs.YtkhejjddmbegaaaGreat.S

/-
  The group that begins so many blocks behind the tail.
-/
namespace Go.Proofs.YtkhejjddmbegaaaGreat.S
open Go.RowKit
open Go.Proofs.YtkhejjddmbegaaaGreat.Dk (Box)

/-- k blocks of the ring, from b behind the tail on -/
def ringB (D : Dk.DS) (t b k : Nat) : List (List UInt8) := (List.range k).map fun i => D.stand (2 + (t + (b + i)) % 16)
theorem ringB_length (D : Dk.DS) (t b k : Nat) : (ringB D t b k).length = k := by simp [ringB]
theorem ringB_succ (D : Dk.DS) (t b k : Nat) : ringB D t b (k + 1) = ringB D t b k ++ [D.stand (2 + (t + (b + k)) % 16)] := by simp [ringB, List.range_succ]
theorem ringB_head (D : Dk.DS) (t b k : Nat) : (ringB D t b (k + 1))[0]?.getD [] = D.stand (2 + (t + b) % 16) := by simp [ringB]
/-- how many images the head there speaks of -/
def cntAt (D : Dk.DS) (t b : Nat) : Nat := (Rc.saidEs (D.stand (2 + (t + b) % 16))).length
/-- a whole group of this epoch and number begins there -/
def GOk (D : Dk.DS) (t E b s : Nat) : Prop :=
  (Rc.isHead (D.stand (2 + (t + b) % 16)) ∧ Rc.saidE (D.stand (2 + (t + b) % 16)) = E ∧ Rc.saidS (D.stand (2 + (t + b) % 16)) = s) ∧ b + (cntAt D t b + 1) ≤ 16 ∧ Rc.isGrp (ringB D t b (cntAt D t b + 1))
/-- its images -/
def gimgs (D : Dk.DS) (t b : Nat) : List (Int × List UInt8) := Rc.imgsTo (ringB D t b (cntAt D t b + 1)) (Rc.saidEs (D.stand (2 + (t + b) % 16))) (cntAt D t b)
def zG : Value := .agg #[.int .i64 0, .int .i64 0, .slice none 0 0]
/-- what is told of it -/
def GrR (w : World) (D : Dk.DS) (t E b s : Nat) (r : Ending) (w' : World) : Prop :=
  (GOk D t E b s ∧ ∃ a c ps, r = .returned (.tuple #[.agg #[.int .i64 (E : Int), .int .i64 (s : Int), .slice a (cntAt D t b) c], .int .i64 0]) ∧ w'.ownsRow w.heap.size 108 2 (.slice a (cntAt D t b) c) (cntAt D t b) (Rc.imgC ps) ∧ Rc.GetJ w.heap.size w' ps ∧ ps.map (fun p => (p.b, p.xs)) = gimgs D t b ∧ Below w.heap.size w w') ∨
  (¬ GOk D t E b s ∧ r = .returned (.tuple #[.agg #[.int .i64 0, .int .i64 0, .slice none 0 0], .int .i64 80]) ∧ Below w.heap.size w w')

theorem box3 {W : World} {b : Nat} {v0 v1 v2 : Value} (h : Box W b #[v0, v1, v2] 40) : (W.cell? ⟨b, 0, none⟩ = some v0 ∧ W.cell? ⟨b, 1, none⟩ = some v1 ∧ W.cell? ⟨b, 2, none⟩ = some v2) ∧ W.frozen? ⟨b, 0, none⟩ = false ∧ W.frozen? ⟨b, 1, none⟩ = false ∧ W.frozen? ⟨b, 2, none⟩ = false :=
  ⟨⟨h.cell 0, h.cell 1, h.cell 2⟩, h.frozen 0, h.frozen 1, h.frozen 2⟩
theorem below_set3 {B : Nat} {a W : World} (h : Below B a W) {k : Nat} (hk : B ≤ k) (v0 v1 v2 : Value) : Below B a (((W.setCell ⟨k, 0, none⟩ v0).setCell ⟨k, 1, none⟩ v1).setCell ⟨k, 2, none⟩ v2) :=
  ((h.setCell (p := ⟨k, 0, none⟩) hk v0).setCell (p := ⟨k, 1, none⟩) hk v1).setCell (p := ⟨k, 2, none⟩) hk v2
theorem box_set3 {W : World} {k : Nat} {u0 u1 u2 : Value} (h : Box W k #[u0, u1, u2] 40) (v0 v1 v2 : Value) : Box (((W.setCell ⟨k, 0, none⟩ v0).setCell ⟨k, 1, none⟩ v1).setCell ⟨k, 2, none⟩ v2) k #[v0, v1, v2] 40 := by
  simpa using ((h.store 0 v0).store 1 v1).store 2 v2

set_option maxRecDepth 100000 in
set_option maxHeartbeats 4000000 in
theorem group_at {w : World} {dg : Nat} {D : Dk.DS} {F : Nat → Prop} (hd : Dk.IsDisk w dg D F) (hnb : D.nb = 64) (hg : D.gone = false) (hlim : D.uf.length ≤ 1000000) (B : Int) (S : Int) (t E b s : Nat) (ht : t < 16) (hb : b ≤ 16) :
    Calls Tryz.prog 49 #[.agg (rC dg B (E : Int) S (t : Int)), .int .i64 (b : Int), .int .i64 (s : Int)] w (GrR w D t E b s) := by
  have ok : D.Ok := by obtain ⟨gd, cd, vu, ps, hl⟩ := hd; exact hl.ok
  have HBk : Hid (∀ (u : World) (k : Nat), Below w.heap.size w u → k ≤ 1000 → Calls Tryz.prog 71 #[.agg (rC dg B (E : Int) S (t : Int)), .int .i64 (k : Int)] u fun r w' => ∃ gr cr, r = .returned (.tuple #[.slice (some ⟨gr, 0, none⟩) 4096 cr, .int .i64 0]) ∧ u.heap.size ≤ gr ∧ Rc.RowB w' gr cr (D.stand (2 + (t + k) % 16)) ∧ Below u.heap.size u w') := fun u k bu hk => by
    have hd' : Dk.IsDisk u dg D F := by
      obtain ⟨gd, cd, vu, ps, hl⟩ := hd
      exact ⟨gd, cd, vu, ps, hl.kept (fun i hi => bu.block i (hl.flt i hi)) bu.size⟩
    exact block_at hd' hnb hg hlim B E S t k ht hk
  have HLn : Hid (∀ k, (D.stand (2 + (t + k) % 16)).length = 4096) := fun k => Dk.stand_length ok _ (by have := Nat.mod_lt (t + k) (show 0 < 16 by decide); omega)
  clear hd ok
  have b1 := (Below.refl w.heap.size w).alloc (Nat.le_refl _) (.cells (rC dg B (E : Int) S (t : Int)) 65)
  have B0 := b1.alloc b1.size (.cells #[.int .i64 0, .int .i64 0, .slice none 0 0] 40)
  have x0 := (Dk.Box.new w (rC dg B (E : Int) S (t : Int)) 65).alloc (.cells #[.int .i64 0, .int .i64 0, .slice none 0 0] 40)
  have x1 : Box ((w.alloc (.cells (rC dg B (E : Int) S (t : Int)) 65)).alloc (.cells #[.int .i64 0, .int .i64 0, .slice none 0 0] 40)) (w.heap.size + 1) #[.int .i64 0, .int .i64 0, .slice none 0 0] 40 := Rg.Box.next w _ _ 40
  have z0 : Hid (((w.alloc (.cells (rC dg B (E : Int) S (t : Int)) 65)).alloc (.cells #[.int .i64 0, .int .i64 0, .slice none 0 0] 40)).heap.size = w.heap.size + 2) := by show _ = _; simp
  obtain ⟨y0, y1, y2, y3, y4, y5, y6, y7, y8, y9, y10, y11⟩ := r_cells x0
  have HX0 : Hid (Box ((w.alloc (.cells (rC dg B (E : Int) S (t : Int)) 65)).alloc (.cells #[.int .i64 0, .int .i64 0, .slice none 0 0] 40)) w.heap.size (rC dg B (E : Int) S (t : Int)) 65) := x0
  clear b1 x0
  unfold rC at *
  have HX1 : Hid (Box ((w.alloc (.cells #[.pointer (some ⟨dg, 0, none⟩), .int .i64 64, .int .i64 2, .int .i64 16, .int .i64 18, .int .i64 19, .int .i64 4, .int .i64 23, .int .i64 B, .int .i64 (E : Int), .int .i64 S, .int .i64 (t : Int)] 65)).alloc (.cells #[.int .i64 0, .int .i64 0, .slice none 0 0] 40)) (w.heap.size + 1) #[.int .i64 0, .int .i64 0, .slice none 0 0] 40) := x1
  have HB0 : Hid (Below w.heap.size w ((w.alloc (.cells #[.pointer (some ⟨dg, 0, none⟩), .int .i64 64, .int .i64 2, .int .i64 16, .int .i64 18, .int .i64 19, .int .i64 4, .int .i64 23, .int .i64 B, .int .i64 (E : Int), .int .i64 S, .int .i64 (t : Int)] 65)).alloc (.cells #[.int .i64 0, .int .i64 0, .slice none 0 0] 40))) := B0
  have cB := HBk.out _ B0 (k := b) (by omega)
  clear x1 B0
  go_enter Tryz.func49, Tryz.ntmps49
  go_wp2_with fail
  refine Calls.mono cB ?_
  generalize (w.alloc (.cells #[.pointer (some ⟨dg, 0, none⟩), .int .i64 64, .int .i64 2, .int .i64 16, .int .i64 18, .int .i64 19, .int .i64 4, .int .i64 23, .int .i64 B, .int .i64 (E : Int), .int .i64 S, .int .i64 (t : Int)] 65)).alloc (.cells #[.int .i64 0, .int .i64 0, .slice none 0 0] 40) = W0 at *
  rintro r u1 ⟨gh, ch, rfl, hgh, hrow, bb1⟩
  clear cB y0 y1 y2 y3 y4 y5 y6 y7 y8 y9 y10 y11
  have HC : Hid (∀ u, Below W0.heap.size W0 u → R12 w dg B (E : Int) S (t : Int) u) := fun u bu => r_cells (HX0.out.below bu)
  have hrow' := hrow
  obtain ⟨curh, hbh, hcap, hmax, _, _⟩ := hrow'
  have HX : Hid ((D.stand (2 + (t + b) % 16)).length = 4096) := HLn.out b
  rw [HX.out] at hcap
  have cH := Rc.head_at (some ⟨gh, 0, none⟩) 4096 ch (D.stand (2 + (t + b) % 16)) u1 HX.out hcap (by unfold maxLen at hmax; omega) hrow.rd
  have HRow : Hid (Rc.RowB u1 gh ch (D.stand (2 + (t + b) % 16))) := hrow
  clear hrow hbh
  obtain ⟨X, hXe⟩ : ∃ X, X = D.stand (2 + (t + b) % 16) := ⟨_, rfl⟩
  have HXe : Hid (X = D.stand (2 + (t + b) % 16)) := hXe
  rw [← hXe] at cH HRow HX
  clear hXe
  go_wp2_with fail
  refine Calls.mono cH ?_
  rintro r u2 (⟨hH, rfl, bb2⟩ | ⟨hH, rfl, bb2⟩)
  rotate_left
  · have B2 := bb1.trans (bb2.mono bb1.size)
    have hno : ¬ GOk D t E b s := fun h => hH (by rw [HXe.out]; exact h.1.1)
    have x2 := HX1.out.below B2
    obtain ⟨⟨q0, q1, q2⟩, p0, p1, p2⟩ := box3 x2
    have x3 := box_set3 x2 (.int .i64 0) (.int .i64 0) (.slice none 0 0)
    have d0 := x3.cell 0
    have d1 := x3.cell 1
    have d2 := x3.cell 2
    simp at d0 d1 d2
    have Bf := below_set3 (HB0.out.trans (B2.mono HB0.out.size)) (k := w.heap.size + 1) (Nat.le_succ _) (.int .i64 0) (.int .i64 0) (.slice none 0 0)
    go_wp2_with fail
    exact bodyPost_ret (v := .tuple #[.agg #[.int .i64 0, .int .i64 0, .slice none 0 0], .int .i64 80]) (by simp [results, Tryz.results49, go_sem, d0, d1, d2]) rfl (.inr ⟨hno, rfl, Bf⟩)
  have B2 := bb1.trans (bb2.mono bb1.size)
  obtain ⟨y0, y1, y2, y3, y4, y5, y6, y7, y8, y9, y10, y11⟩ := HC.out u2 B2
  clear cH
  by_cases hES : Rc.saidE X = E ∧ Rc.saidS X = s
  rotate_left
  · have hno : ¬ GOk D t E b s := fun h => hES (by rw [HXe.out]; exact h.1.2)
    by_cases hE : Rc.saidE X = E
    · have hS : Rc.saidS X ≠ s := fun h => hES ⟨hE, h⟩
      have e1 : ¬ ((Rc.saidS X : Int) = (s : Int)) := by omega
      have e2 : ((Rc.saidE X : Int)) = (E : Int) := by omega
      clear hES hS hE
      have x2 := HX1.out.below B2
      obtain ⟨⟨q0, q1, q2⟩, p0, p1, p2⟩ := box3 x2
      have x3 := box_set3 x2 (.int .i64 0) (.int .i64 0) (.slice none 0 0)
      have d0 := x3.cell 0
      have d1 := x3.cell 1
      have d2 := x3.cell 2
      simp at d0 d1 d2
      have Bf := below_set3 (HB0.out.trans (B2.mono HB0.out.size)) (k := w.heap.size + 1) (Nat.le_succ _) (.int .i64 0) (.int .i64 0) (.slice none 0 0)
      go_wp2_with fail
      exact bodyPost_ret (v := .tuple #[.agg #[.int .i64 0, .int .i64 0, .slice none 0 0], .int .i64 80]) (by simp [results, Tryz.results49, go_sem, d0, d1, d2]) rfl (.inr ⟨hno, rfl, Bf⟩)
    · have e1 : ¬ ((Rc.saidE X : Int) = (E : Int)) := by omega
      clear hES hE
      have x2 := HX1.out.below B2
      obtain ⟨⟨q0, q1, q2⟩, p0, p1, p2⟩ := box3 x2
      have x3 := box_set3 x2 (.int .i64 0) (.int .i64 0) (.slice none 0 0)
      have d0 := x3.cell 0
      have d1 := x3.cell 1
      have d2 := x3.cell 2
      simp at d0 d1 d2
      have Bf := below_set3 (HB0.out.trans (B2.mono HB0.out.size)) (k := w.heap.size + 1) (Nat.le_succ _) (.int .i64 0) (.int .i64 0) (.slice none 0 0)
      go_wp2_with fail
      exact bodyPost_ret (v := .tuple #[.agg #[.int .i64 0, .int .i64 0, .slice none 0 0], .int .i64 80]) (by simp [results, Tryz.results49, go_sem, d0, d1, d2]) rfl (.inr ⟨hno, rfl, Bf⟩)
  obtain ⟨hE, hS⟩ := hES
  have hm1 : 1 ≤ (Rc.saidEs X).length ∧ (Rc.saidEs X).length ≤ 32 := by
    have := hH.2.1.2.1
    simpa using this
  obtain ⟨m, hm⟩ : ∃ m, m = (Rc.saidEs X).length := ⟨_, rfl⟩
  have HM : Hid (cntAt D t b = m) := by show (Rc.saidEs (D.stand (2 + (t + b) % 16))).length = m; rw [← HXe.out, hm]
  rw [← hm] at hm1 ⊢
  have e1 : ((Rc.saidE X : Nat) : Int) = (E : Int) := by omega
  have e2 : ((Rc.saidS X : Nat) : Int) = (s : Int) := by omega
  simp only [e1, e2]
  have HHd : Hid (Rc.isHead X ∧ Rc.saidE X = E ∧ Rc.saidS X = s) := ⟨hH, hE, hS⟩
  have cBl := Rc.blocks_at (m : Int) u2
  have ebl : Rc.blocksN (m : Int) = ((m + 1 : Nat) : Int) := by
    unfold Rc.blocksN
    rw [if_pos (by omega)]
    omega
  rw [ebl] at cBl
  clear ebl hE hS e1 e2 hm hH
  go_wp2_with fail
  refine Calls.mono cBl ?_
  rintro r u3 ⟨rfl, rfl⟩
  clear cBl
  by_cases hfit : b + (m + 1) ≤ 16
  rotate_left
  · have hno : ¬ GOk D t E b s := fun h => hfit (by have := h.2.1; rw [HM.out] at this; exact this)
    have hgt : (16 : Int) < (b : Int) + ((m : Int) + 1) := by omega
    clear hfit
    have x2 := HX1.out.below B2
    obtain ⟨⟨q0, q1, q2⟩, p0, p1, p2⟩ := box3 x2
    have x3 := box_set3 x2 (.int .i64 0) (.int .i64 0) (.slice none 0 0)
    have d0 := x3.cell 0
    have d1 := x3.cell 1
    have d2 := x3.cell 2
    simp at d0 d1 d2
    have Bf := below_set3 (HB0.out.trans (B2.mono HB0.out.size)) (k := w.heap.size + 1) (Nat.le_succ _) (.int .i64 0) (.int .i64 0) (.slice none 0 0)
    go_wp2_with fail
    exact bodyPost_ret (v := .tuple #[.agg #[.int .i64 0, .int .i64 0, .slice none 0 0], .int .i64 80]) (by simp [results, Tryz.results49, go_sem, d0, d1, d2]) rfl (.inr ⟨hno, rfl, Bf⟩)
  have hle : ¬ (16 : Int) < (b : Int) + ((m : Int) + 1) := by omega
  obtain ⟨i0, hi0, hz0, hz1, hz2⟩ := info_parts Rc.info31
  have HRow2 : Hid (Rc.RowB u2 gh ch X) := HRow.out.same (bb2.block gh HRow.out.lt)
  have al := (Below.refl u2.heap.size u2).alloc (Nat.le_refl _) (.cells #[.slice (some ⟨gh, 0, none⟩) 4096 ch] 41)
  have hst : Hid ((u2.alloc (.cells #[.slice (some ⟨gh, 0, none⟩) 4096 ch] 41)).ownsRow W0.heap.size 41 1 (.slice (some ⟨u2.heap.size, 0, none⟩) 1 1) 1 (Rc.lstC [⟨0, X, gh, ch⟩])) := ⟨rfl, .inr ⟨u2.heap.size, 1, #[.slice (some ⟨gh, 0, none⟩) 4096 ch], rfl, B2.size, Dk.Box.new u2 _ 41, Nat.le_refl _, by unfold maxLen; omega, rfl, rfl⟩⟩
  have hgj : Hid (Rc.GetJ W0.heap.size (u2.alloc (.cells #[.slice (some ⟨gh, 0, none⟩) 4096 ch] 41)) [⟨0, X, gh, ch⟩]) := ⟨fun p hp => by
    obtain rfl : p = ⟨0, X, gh, ch⟩ := by simpa using hp
    exact ⟨HRow2.out.same (al.block gh HRow2.out.lt), hgh, HX.out⟩, by simp⟩
  have hbl : Hid (Below W0.heap.size W0 (u2.alloc (.cells #[.slice (some ⟨gh, 0, none⟩) 4096 ch] 41))) := B2.trans (al.mono B2.size)
  have hq0 : Hid ([(⟨0, X, gh, ch⟩ : Rc.GG)].map Rc.GG.xs = ringB D t b 1) := by show [X] = _; rw [HXe.out]; simp [ringB]
  clear y0 y1 y2 y4 y5 y6 y7 y8 y9 y10 y11
  go_wp2_with fail
  clear y3
  generalize u2.alloc (.cells #[.slice (some ⟨gh, 0, none⟩) 4096 ch] 41) = u4 at hst hgj hbl al ⊢
  go_loopw [15, 16] (fun v15 v16 u => ∃ (j : Nat) (qs : List Rc.GG), 1 ≤ j ∧ j ≤ m + 1 ∧ v16 = .int .i64 ((b : Int) + (j : Int)) ∧ u.ownsRow W0.heap.size 41 1 v15 j (Rc.lstC qs) ∧ Rc.GetJ W0.heap.size u qs ∧ qs.map Rc.GG.xs = ringB D t b j ∧ Below W0.heap.size W0 u) (fun _ v16 _ => b + (m + 1) - (intOf v16).toNat)
  case atStart => exact ⟨1, [⟨0, X, gh, ch⟩], Nat.le_refl _, by omega, by push_cast; rfl, hst.out, hgj.out, hq0.out, hbl.out⟩
  case round =>
    clear hst hgj hbl hq0 al HRow2 HRow
    obtain ⟨j, qs, hj1, hj2, rfl, hown, hJ, hq, Bj⟩ := hrel
    have HJ : Hid (Rc.GetJ W0.heap.size wr qs) := hJ
    have HQ : Hid (qs.map Rc.GG.xs = ringB D t b j) := hq
    obtain ⟨av, cv, rfl⟩ := Rc.owns_shape hown
    clear hJ hq
    by_cases hlt : j < m + 1
    · have hlt' : (b : Int) + (j : Int) < (b : Int) + ((m : Int) + 1) := by omega
      have cB := HBk.out wr (b + j) (HB0.out.trans (Bj.mono HB0.out.size)) (by omega)
      have ebj : ((b + j : Nat) : Int) = (b : Int) + (j : Int) := by omega
      rw [ebj] at cB
      have HX4 : Hid ((D.stand (2 + (t + (b + j)) % 16)).length = 4096) := HLn.out (b + j)
      have HSc : Hid (ringB D t b (j + 1) = ringB D t b j ++ [D.stand (2 + (t + (b + j)) % 16)]) := ringB_succ D t b j
      generalize D.stand (2 + (t + (b + j)) % 16) = Y at cB HX4 HSc
      obtain ⟨y0, y1, y2, y3, y4, y5, y6, y7, y8, y9, y10, y11⟩ := HC.out wr Bj
      have HOWN : Hid (wr.ownsRow W0.heap.size 41 1 (.slice av j cv) j (Rc.lstC qs)) := hown
      clear hown ebj
      go_wp2_with fail
      refine Calls.mono cB ?_
      rintro r v1 ⟨gr, cr, rfl, hgr, hrow, bb1⟩
      clear cB y0 y1 y2 y3 y4 y5 y6 y7 y8 y9 y10 y11
      have O1 : Hid (v1.ownsRow W0.heap.size 41 1 (.slice av j cv) j (Rc.lstC qs)) := Rc.owns_below HOWN.out bb1
      have own1 := (O1.out).alloc (.cells #[.slice (some ⟨gr, 0, none⟩) 4096 cr] 41)
      have B1 := Bj.trans (bb1.mono Bj.size)
      have J1 : Hid (Rc.GetJ W0.heap.size v1 (qs ++ [⟨0, Y, gr, cr⟩])) := HJ.out.snoc bb1 ⟨0, Y, gr, cr⟩ hrow hgr HX4.out Bj.size
      clear bb1 hrow
      have z1 := B1.size
      go_wp2_with (at_builtin; refine wpList_append_own _ rfl _ _ 52 rfl W0.heap.size 41 i0 (.slice none 0 0) 1 24 Tryz.underlying52 hi0 hz0 hz1 hz2 rfl (by decide) _ j _ rfl own1 ⟨v1.heap.size, 0, none⟩ 1 1 [.slice (some ⟨gr, 0, none⟩) 4096 cr] rfl rfl ?c1 ?c2 ?c3 ?c4 ?c5 ?_)
      case c1 =>
        intro i u hi'
        match i, hi' with
        | 0, hi' => simp at hi'; subst hi'; simp [Addr.add]
      case c2 => intro u hu; simp at hu; subst hu; rfl
      case c3 => unfold maxLen; omega
      case c4 => omega
      case c5 => simp; omega
      · intro v' v2 hown2 hgrow _
        have al1 := (Below.refl v1.heap.size v1).alloc (Nat.le_refl _) (.cells #[.slice (some ⟨gr, 0, none⟩) 4096 cr] 41)
        have B2' : Below W0.heap.size W0 v2 := (B1.alloc z1 _).grown hgrow (by simp; omega) (fun k hk => (O1.out.lt k hk).1)
        have J2 : Rc.GetJ W0.heap.size v2 (qs ++ [⟨0, Y, gr, cr⟩]) := (J1.out.below al1).grown own1 (by decide) hgrow
        clear hgrow own1 al1
        go_wp2_with fail
        go_roundw
        case rel => exact ⟨j + 1, qs ++ [⟨0, Y, gr, cr⟩], by omega, by omega, by push_cast; rw [Int.add_assoc], by simpa [Rc.lstC] using hown2, J2, by rw [List.map_append, HQ.out, HSc.out]; rfl, B2'⟩
        case measure => simp [intOf]; omega
    · obtain rfl : j = m + 1 := by omega
      have hql : qs.length = m + 1 := by
        have := congrArg List.length HQ.out
        rw [List.length_map, ringB_length] at this
        exact this
      have hLs := Rc.lsts_of hown HJ.out hql
      rw [HQ.out] at hLs
      have cG := Rc.get_in av (m + 1) cv (ringB D t b (m + 1)) wr (ringB_length _ _ _ _) (by omega) (by omega) hLs
      have hge : ¬ (b : Int) + ((m + 1 : Nat) : Int) < (b : Int) + ((m : Int) + 1) := by omega
      clear hown hLs hql hlt
      go_wp2_with fail
      refine Calls.mono cG ?_
      have hml : (Rc.saidEs X).length = m := by rw [HXe.out]; exact HM.out
      rintro r v1 (⟨hG, a, c, ps, rfl, ho, hj, hps, bb⟩ | ⟨hG, rfl, bb⟩)
      · have B3 := Bj.trans (bb.mono Bj.size)
        rw [ringB_head D t b m, ← HXe.out, hml] at ho hps
        rw [ringB_head D t b m, ← HXe.out, hml, HHd.out.2.1, HHd.out.2.2]
        have x2 := HX1.out.below B3
        obtain ⟨⟨q0, q1, q2⟩, p0, p1, p2⟩ := box3 x2
        have x3 := box_set3 x2 (.int .i64 (E : Int)) (.int .i64 (s : Int)) (.slice a m c)
        have d0 := x3.cell 0
        have d1 := x3.cell 1
        have d2 := x3.cell 2
        simp at d0 d1 d2
        have Bf := below_set3 (HB0.out.trans (B3.mono HB0.out.size)) (k := w.heap.size + 1) (Nat.le_succ _) (.int .i64 (E : Int)) (.int .i64 (s : Int)) (.slice a m c)
        have hbase : w.heap.size ≤ wr.heap.size := Nat.le_trans HB0.out.size Bj.size
        have hset : ∀ k, k ≠ w.heap.size + 1 → (((v1.setCell ⟨w.heap.size + 1, 0, none⟩ (.int .i64 (E : Int))).setCell ⟨w.heap.size + 1, 1, none⟩ (.int .i64 (s : Int))).setCell ⟨w.heap.size + 1, 2, none⟩ (.slice a m c)).heap[k]? = v1.heap[k]? := fun k hk => by
          rw [heap_setCell_other _ ⟨w.heap.size + 1, 2, none⟩ k _ (by simpa using hk), heap_setCell_other _ ⟨w.heap.size + 1, 1, none⟩ k _ (by simpa using hk), heap_setCell_other _ ⟨w.heap.size + 1, 0, none⟩ k _ (by simpa using hk)]
        have Ho : Hid ((((v1.setCell ⟨w.heap.size + 1, 0, none⟩ (.int .i64 (E : Int))).setCell ⟨w.heap.size + 1, 1, none⟩ (.int .i64 (s : Int))).setCell ⟨w.heap.size + 1, 2, none⟩ (.slice a m c)).ownsRow w.heap.size 108 2 (.slice a m c) m (Rc.imgC ps)) := by
          have ho' := J.owns_kept ho (fun k hk => hset k (fun e => by
            obtain ⟨_, cur, hb94⟩ := Rc.owns_block ho k hk
            subst e
            exact x2.ne hb94 (by decide) rfl))
          refine ⟨ho'.1, ?_⟩
          rcases ho'.2 with h1 | ⟨g', cap', cur, e, hb', rr⟩
          · exact .inl h1
          · exact .inr ⟨g', cap', cur, e, Nat.le_trans hbase hb', rr⟩
        have Hj : Hid (Rc.GetJ w.heap.size (((v1.setCell ⟨w.heap.size + 1, 0, none⟩ (.int .i64 (E : Int))).setCell ⟨w.heap.size + 1, 1, none⟩ (.int .i64 (s : Int))).setCell ⟨w.heap.size + 1, 2, none⟩ (.slice a m c)) ps) := ⟨fun p hp => by
          obtain ⟨a1, a2, a3⟩ := hj.rows p hp
          refine ⟨a1.same (hset p.h (fun e => ?_)), Nat.le_trans hbase a2, a3⟩
          obtain ⟨cur, hb5, _⟩ := a1
          rw [e] at hb5
          exact x2.ne hb5 (by decide) rfl, hj.apart⟩
        have HP : Hid (ps.map (fun p => (p.b, p.xs)) = gimgs D t b) := by
          show _ = _
          rw [hps]
          unfold gimgs
          rw [HM.out, ← HXe.out]
        have HGk : Hid (GOk D t E b s) := by
          refine ⟨by rw [← HXe.out]; exact HHd.out, by rw [HM.out]; exact hfit, by rw [HM.out]; exact hG⟩
        have HBf : Hid (Below w.heap.size w (((v1.setCell ⟨w.heap.size + 1, 0, none⟩ (.int .i64 (E : Int))).setCell ⟨w.heap.size + 1, 1, none⟩ (.int .i64 (s : Int))).setCell ⟨w.heap.size + 1, 2, none⟩ (.slice a m c))) := Bf
        clear ho hj hps hset Bf hG
        go_wp2_with fail
        refine bodyPost_ret (v := .tuple #[.agg #[.int .i64 (E : Int), .int .i64 (s : Int), .slice a m c], .int .i64 0]) (by simp [results, Tryz.results49, go_sem, d0, d1, d2]) rfl (.inl ⟨HGk.out, a, c, ps, ?_⟩)
        rw [HM.out]
        exact ⟨rfl, Ho.out, Hj.out, HP.out, HBf.out⟩
      · have B3 := Bj.trans (bb.mono Bj.size)
        have hno : ¬ GOk D t E b s := fun h => hG (by have := h.2.2; rw [HM.out] at this; exact this)
        clear hG
        have x2 := HX1.out.below B3
        obtain ⟨⟨q0, q1, q2⟩, p0, p1, p2⟩ := box3 x2
        have x3 := box_set3 x2 (.int .i64 0) (.int .i64 0) (.slice none 0 0)
        have d0 := x3.cell 0
        have d1 := x3.cell 1
        have d2 := x3.cell 2
        simp at d0 d1 d2
        have Bf := below_set3 (HB0.out.trans (B3.mono HB0.out.size)) (k := w.heap.size + 1) (Nat.le_succ _) (.int .i64 0) (.int .i64 0) (.slice none 0 0)
        go_wp2_with fail
        exact bodyPost_ret (v := .tuple #[.agg #[.int .i64 0, .int .i64 0, .slice none 0 0], .int .i64 80]) (by simp [results, Tryz.results49, go_sem, d0, d1, d2]) rfl (.inr ⟨hno, rfl, Bf⟩)
end Go.Proofs.YtkhejjddmbegaaaGreat.S
