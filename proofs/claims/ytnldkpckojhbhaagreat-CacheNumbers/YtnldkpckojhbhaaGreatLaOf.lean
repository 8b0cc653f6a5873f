/-
  layout's own calls: within, laid, Of; the document's Of.
-/
import Derived.Test.YtnldkpckojhbhaaGreatRows
import Derived.WalkKit
import Derived.WalkSpells
import Derived.WalkLawsBesides
import Derived.Laws.BytesArg
import Derived.ProofKit
import Derived.Laws.StructEq
import Derived.BigQuiet
import Derived.Deep.RegionWith
namespace Go.Proofs.YtnldkpckojhbhaaGreat.La
open Go.RowKit

/-- a block that was made for one value -/
def Box (w : World) (g : Nat) (cs : Array Value) (t : TypeId) : Prop := w.heap[g]? = some (.cells cs t (0, 0))
theorem Box.cell {w : World} {g : Nat} {cs : Array Value} {t : TypeId} (h : Box w g cs t) (j : Nat) : w.cell? ⟨g, j, none⟩ = cs[j]? := cell_of_row w g j cs t (0, 0) h
theorem Box.lt {w : World} {g : Nat} {cs : Array Value} {t : TypeId} (h : Box w g cs t) : g < w.heap.size := (Array.getElem?_eq_some_iff.1 h).1
theorem Box.below {w w' : World} {g : Nat} {cs : Array Value} {t : TypeId} (h : Box w g cs t) (hb : Below w.heap.size w w') : Box w' g cs t := (hb.block g h.lt).trans h
theorem Box.new (w : World) (cs : Array Value) (t : TypeId) : Box (w.alloc (.cells cs t)) w.heap.size cs t := heap_alloc_new w _

theorem Box.frozen {w : World} {g : Nat} {cs : Array Value} {t : TypeId} (h : Box w g cs t) (j : Nat) : w.frozen? ⟨g, j, none⟩ = false := frozen_of_row w g j cs t h
theorem Box.store {w : World} {g : Nat} {cs : Array Value} {t : TypeId} (h : Box w g cs t) (j : Nat) (v : Value) : Box (w.setCell ⟨g, j, none⟩ v) g (cs.setIfInBounds j v) t := heap_setCell_same w g j cs t v h
theorem Box.alloc {w : World} {g : Nat} {cs : Array Value} {t : TypeId} (h : Box w g cs t) (o : Obj) : Box (w.alloc o) g cs t := (Below.heap_alloc w o g h.lt).trans h
theorem Box.all7 {w : World} {g : Nat} {v0 v1 v2 v3 v4 v5 v6 : Value} {t : TypeId} (h : Box w g #[v0, v1, v2, v3, v4, v5, v6] t) : w.cell? ⟨g, 0, none⟩ = some v0 ∧ w.cell? ⟨g, 1, none⟩ = some v1 ∧ w.cell? ⟨g, 2, none⟩ = some v2 ∧ w.cell? ⟨g, 3, none⟩ = some v3 ∧ w.cell? ⟨g, 4, none⟩ = some v4 ∧ w.cell? ⟨g, 5, none⟩ = some v5 ∧ w.cell? ⟨g, 6, none⟩ = some v6 :=
  ⟨h.cell 0, h.cell 1, h.cell 2, h.cell 3, h.cell 4, h.cell 5, h.cell 6⟩
theorem Box.fr7 {w : World} {g : Nat} {cs : Array Value} {t : TypeId} (h : Box w g cs t) : w.frozen? ⟨g, 0, none⟩ = false ∧ w.frozen? ⟨g, 1, none⟩ = false ∧ w.frozen? ⟨g, 2, none⟩ = false ∧ w.frozen? ⟨g, 3, none⟩ = false ∧ w.frozen? ⟨g, 4, none⟩ = false ∧ w.frozen? ⟨g, 5, none⟩ = false ∧ w.frozen? ⟨g, 6, none⟩ = false :=
  ⟨h.frozen 0, h.frozen 1, h.frozen 2, h.frozen 3, h.frozen 4, h.frozen 5, h.frozen 6⟩
def set7 (w : World) (g : Nat) (u0 u1 u2 u3 u4 u5 u6 : Value) : World := (((((((w.setCell ⟨g, 0, none⟩ u0).setCell ⟨g, 1, none⟩ u1).setCell ⟨g, 2, none⟩ u2).setCell ⟨g, 3, none⟩ u3).setCell ⟨g, 4, none⟩ u4).setCell ⟨g, 5, none⟩ u5).setCell ⟨g, 6, none⟩ u6)
theorem Box.store7 {w : World} {g : Nat} {v0 v1 v2 v3 v4 v5 v6 u0 u1 u2 u3 u4 u5 u6 : Value} {t : TypeId} (h : Box w g #[v0, v1, v2, v3, v4, v5, v6] t) : Box (set7 w g u0 u1 u2 u3 u4 u5 u6) g #[u0, u1, u2, u3, u4, u5, u6] t := by
  have q := (((((((h.store 0 u0).store 1 u1).store 2 u2).store 3 u3).store 4 u4).store 5 u5).store 6 u6)
  unfold set7
  simpa using q
theorem below7 {B : Nat} {w0 w : World} {g : Nat} (h : Below B w0 w) (hg : B ≤ g) (u0 u1 u2 u3 u4 u5 u6 : Value) : Below B w0 (set7 w g u0 u1 u2 u3 u4 u5 u6) := (((((((h.setCell (p := ⟨g, 0, none⟩) hg u0).setCell (p := ⟨g, 1, none⟩) hg u1).setCell (p := ⟨g, 2, none⟩) hg u2).setCell (p := ⟨g, 3, none⟩) hg u3).setCell (p := ⟨g, 4, none⟩) hg u4).setCell (p := ⟨g, 5, none⟩) hg u5).setCell (p := ⟨g, 6, none⟩) hg u6)

/-- the blocks of the log of that many blocks -/
def lgs (n : Nat) : Nat := if n / 8 ≤ 16 then 16 else n / 8

theorem within_at (n a b : Int) (w : World) :
    Calls Tryz.prog 157 #[.int .i64 n, .int .i64 a, .int .i64 b] w fun r w' => r = .returned (.bool (decide (a ≤ n ∧ n ≤ b))) ∧ w = w' := by
  by_cases h1 : a ≤ n
  · by_cases h2 : n ≤ b
    · rw [decide_eq_true ⟨h1, h2⟩]
      go_enter Tryz.func157, Tryz.ntmps157
      go_wp2
      go_ret
      exact ⟨rfl, rfl⟩
    · rw [decide_eq_false (fun h => h2 h.2)]
      go_enter Tryz.func157, Tryz.ntmps157
      go_wp2
      go_ret
      exact ⟨rfl, rfl⟩
  · rw [decide_eq_false (fun h => h1 h.1)]
    go_enter Tryz.func157, Tryz.ntmps157
    go_wp2
    go_ret
    exact ⟨rfl, rfl⟩

theorem lgs_lo (n : Nat) (h : (n : Int) / 8 < 16) : lgs n = 16 := by unfold lgs; split <;> omega
theorem lgs_hi (n : Nat) (h : 16 ≤ (n : Int) / 8) : lgs n = n / 8 := by unfold lgs; split <;> omega
theorem lgs_ge (n : Nat) : 16 ≤ lgs n := by unfold lgs; split <;> omega
theorem lgs_le (n : Nat) (h : n ≤ 512) : lgs n ≤ 64 := by unfold lgs; split <;> omega
theorem lgs_free (n : Nat) (h0 : 64 ≤ n) : 3 + lgs n + n / 16 < n := by unfold lgs; split <;> omega

/-- the layout of n blocks, as a value's parts -/
def layA (n : Nat) : Array Value := #[.int .i64 n, .int .i64 2, .int .i64 (lgs n : Int), .int .i64 (2 + (lgs n : Int)), .int .i64 (3 + (lgs n : Int)), .int .i64 ((n : Int) / 16), .int .i64 (3 + (lgs n : Int) + (n : Int) / 16)]
def noneA : Array Value := #[.int .i64 0, .int .i64 0, .int .i64 0, .int .i64 0, .int .i64 0, .int .i64 0, .int .i64 0]

theorem laid_at (n : Nat) (w : World) (h0 : 64 ≤ n) (h1 : n ≤ 512) :
    Calls Tryz.prog 158 #[.int .i64 n] w fun r w' => r = .returned (.agg (layA n)) ∧ Below w.heap.size w w' := by
  unfold layA
  go_enter Tryz.func158, Tryz.ntmps158
  go_wp2
  · refine bodyPost_ret (by simp [results, Tryz.results158, go_sem]; rfl) rfl ⟨?_, ((Below.refl w.heap.size w).alloc (Nat.le_refl _) _).alloc (by simp) _⟩
    rw [lgs_lo n h]
    simp
  · refine bodyPost_ret (by simp [results, Tryz.results158, go_sem]; rfl) rfl ⟨?_, ((Below.refl w.heap.size w).alloc (Nat.le_refl _) _).alloc (by simp) _⟩
    rw [lgs_hi n h]
    simp
    omega

theorem of_good (n : Nat) (w : World) (h0 : 64 ≤ n) (h1 : n ≤ 512) :
    Calls Tryz.prog 89 #[.int .i64 n] w fun r w' => r = .returned (.tuple #[.agg (layA n), .int .i64 0]) ∧ Below w.heap.size w w' := by
  go_enter Tryz.func89, Tryz.ntmps89
  go_wp2_with fail
  refine (within_at _ _ _ _).mono ?_
  rintro r w1 ⟨rfl, rfl⟩
  rw [decide_eq_true (by omega)]
  go_wp2_with fail
  refine (laid_at n _ h0 h1).mono ?_
  rintro r w1 ⟨rfl, b1⟩
  have bx := (Box.new w #[.int .i64 0, .int .i64 0, .int .i64 0, .int .i64 0, .int .i64 0, .int .i64 0, .int .i64 0] 57).below b1
  have B1 := ((Below.refl w.heap.size w).alloc (Nat.le_refl _) _).trans (b1.mono (by simp))
  clear b1
  obtain ⟨c0, c1, c2, c3, c4, c5, c6⟩ := bx.all7
  obtain ⟨f0, f1, f2, f3, f4, f5, f6⟩ := bx.fr7
  unfold layA
  go_wp2_with fail
  have y := bx.store7 (u0 := .int .i64 n) (u1 := .int .i64 2) (u2 := .int .i64 (lgs n : Int)) (u3 := .int .i64 (2 + (lgs n : Int))) (u4 := .int .i64 (3 + (lgs n : Int))) (u5 := .int .i64 ((n : Int) / 16)) (u6 := .int .i64 (3 + (lgs n : Int) + (n : Int) / 16))
  unfold set7 at y
  have C1 := below7 B1 (Nat.le_refl _) (.int .i64 n) (.int .i64 2) (.int .i64 (lgs n : Int)) (.int .i64 (2 + (lgs n : Int))) (.int .i64 (3 + (lgs n : Int))) (.int .i64 ((n : Int) / 16)) (.int .i64 (3 + (lgs n : Int) + (n : Int) / 16))
  unfold set7 at C1
  clear bx B1 c0 c1 c2 c3 c4 c5 c6 f0 f1 f2 f3 f4 f5 f6
  obtain ⟨c0, c1, c2, c3, c4, c5, c6⟩ := y.all7
  refine bodyPost_ret (v := .tuple #[.agg (layA n), .int .i64 0]) (by simp only [layA]; simp [results, Tryz.results89, go_sem, c0, c1, c2, c3, c4, c5, c6]) rfl ⟨rfl, C1⟩

theorem of_bad (n : Int) (w : World) (h : ¬(64 ≤ n ∧ n ≤ 512)) :
    Calls Tryz.prog 89 #[.int .i64 n] w fun r w' => r = .returned (.tuple #[.agg noneA, .int .i64 2]) ∧ Below w.heap.size w w' := by
  go_enter Tryz.func89, Tryz.ntmps89
  go_wp2_with fail
  refine (within_at _ _ _ _).mono ?_
  rintro r w1 ⟨rfl, rfl⟩
  rw [decide_eq_false h]
  go_wp2_with fail
  refine bodyPost_ret (v := .tuple #[.agg noneA, .int .i64 2]) (by simp only [noneA]; simp [results, Tryz.results89, go_sem]) rfl ⟨rfl, (Below.refl _ _).alloc (Nat.le_refl _) _⟩

theorem fields23 : Tryz.prog.underlying 57 = some (.struct (Tryz.prog.fieldsOf 57)) := by kernel_rfl
theorem held23 : Tryz.prog.stoodInHeld 57 = false := by kernel_rfl
theorem guard23 : Tryz.prog.eqGuardType Tryz.prog.depth 57 = false := by kernel_rfl
/-- seven numbers are the same -/
def same7 (a b c d e f g a' b' c' d' e' f' g' : Int) : Bool := decide (a = a' ∧ b = b' ∧ c = c' ∧ d = d' ∧ e = e' ∧ f = f' ∧ g = g')
theorem eq23 (u : World) (a b c d e f g a' b' c' d' e' f' g' : Int) : (Op.equalIn 10000 57 (.agg #[.int .i64 a, .int .i64 b, .int .i64 c, .int .i64 d, .int .i64 e, .int .i64 f, .int .i64 g]) (.agg #[.int .i64 a', .int .i64 b', .int .i64 c', .int .i64 d', .int .i64 e', .int .i64 f', .int .i64 g'])).run Tryz.prog u = .ok (same7 a b c d e f g a' b' c' d' e' f' g') u := by
  rw [run_equalIn_agg u 9999 57 _ _ fields23 held23]
  simp only [Program.fieldsOf, Tryz.underlying57]
  simp [go_sem, Op.eqFields, Tryz.underlying3]
  unfold same7
  by_cases h1 : a = a' <;> simp [h1]
  by_cases h2 : b = b' <;> simp [h2]
  by_cases h3 : c = c' <;> simp [h3]
  by_cases h4 : d = d' <;> simp [h4]
  by_cases h5 : e = e' <;> simp [h5]
  by_cases h6 : f = f' <;> simp [h6]
  by_cases h7 : g = g' <;> simp [h7]
theorem eql23 (u : World) (a b c d e f g a' b' c' d' e' f' g' : Int) : (binOp .eql 57 (.agg #[.int .i64 a, .int .i64 b, .int .i64 c, .int .i64 d, .int .i64 e, .int .i64 f, .int .i64 g]) (.agg #[.int .i64 a', .int .i64 b', .int .i64 c', .int .i64 d', .int .i64 e', .int .i64 f', .int .i64 g'])).run Tryz.prog u = .ok (.bool (same7 a b c d e f g a' b' c' d' e' f' g')) u := by
  rw [run_eql_struct, eq23]
  rfl
theorem guardE23 (u : World) (x y : Operand) (xs ys : Array Value) : (eqGuard .eql 57 x y (.agg xs) (.agg ys)).run Tryz.prog u = .ok () u := run_eqGuard_agg u .eql 57 x y xs ys guard23

/-- is it the layout of its blocks -/
def IsLay (a b c d e f g : Int) : Prop := ∃ n : Nat, 64 ≤ n ∧ n ≤ 512 ∧ a = n ∧ b = 2 ∧ c = lgs n ∧ d = 2 + lgs n ∧ e = 3 + lgs n ∧ f = (n : Int) / 16 ∧ g = 3 + (lgs n : Int) + (n : Int) / 16

theorem ref_good (n : Nat) (w : World) (h0 : 64 ≤ n) (h1 : n ≤ 512) :
    Calls Tryz.prog 105 #[.int .i64 n] w fun r w' => r = .returned (.tuple #[.agg (layA n), .int .i64 0]) ∧ Below w.heap.size w w' := by
  unfold layA
  by_cases h : (n : Int) / 8 < 16
  · go_enter Tryz.func105, Tryz.ntmps105
    go_wp2
    refine bodyPost_ret (by simp [results, Tryz.results105, go_sem]; rfl) rfl ⟨?_, ((Below.refl w.heap.size w).alloc (Nat.le_refl _) _).alloc (by simp) _⟩
    rw [lgs_lo n h]
    simp
  · have h' : 16 ≤ (n : Int) / 8 := by omega
    go_enter Tryz.func105, Tryz.ntmps105
    go_wp2
    refine bodyPost_ret (by simp [results, Tryz.results105, go_sem]; rfl) rfl ⟨?_, ((Below.refl w.heap.size w).alloc (Nat.le_refl _) _).alloc (by simp) _⟩
    rw [lgs_hi n h']
    simp
    omega

theorem ref_bad (n : Int) (w : World) (h : ¬(64 ≤ n ∧ n ≤ 512)) :
    Calls Tryz.prog 105 #[.int .i64 n] w fun r w' => r = .returned (.tuple #[.agg noneA, .int .i64 2]) ∧ Below w.heap.size w w' := by
  by_cases h0 : n < 64
  · go_enter Tryz.func105, Tryz.ntmps105
    go_wp2
    exact bodyPost_ret (v := .tuple #[.agg noneA, .int .i64 2]) (by simp only [noneA]; simp [results, Tryz.results105, go_sem]) rfl ⟨rfl, ((Below.refl w.heap.size w).alloc (Nat.le_refl _) _)⟩
  · have h1 : 512 < n := by omega
    go_enter Tryz.func105, Tryz.ntmps105
    go_wp2
    exact bodyPost_ret (v := .tuple #[.agg noneA, .int .i64 2]) (by simp only [noneA]; simp [results, Tryz.results105, go_sem]) rfl ⟨rfl, ((Below.refl w.heap.size w).alloc (Nat.le_refl _) _)⟩

end Go.Proofs.YtnldkpckojhbhaaGreat.La
