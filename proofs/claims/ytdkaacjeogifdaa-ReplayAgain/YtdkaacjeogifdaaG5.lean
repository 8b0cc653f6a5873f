/-
  LaOf, HMade, HHome, HSort, HRising, DkLists, HPlain, DkLoads, DkPower, DkMake, DkCarry, DkAll, DkFlush: put together.
-/
import Derived.Test.YtdkaacjeogifdaaG4
import Derived.Test.YtdkaacjeogifdaaRows
import Derived.WalkKit
import Derived.WalkSpells
import Derived.WalkLawsBesides
import Derived.Laws.BytesArg
import Derived.ProofKit
import Derived.Laws.StructEq
import Derived.BigQuiet
import Derived.Deep.RegionWith
import Derived.Deep.AppendLies
import Derived.Orders
import Derived.RegionTactic
/-
  layout's own calls: within, laid, Of; the document's Of.
-/
namespace Go.Proofs.Ytdkaacjeogifdaa.La
open Go.RowKit

/-- a block that was made for one value -/
def Box (w : World) (g : Nat) (cs : Array Value) (t : TypeId) : Prop := w.heap[g]? = some (.cells cs t (0, 0))
theorem Box.cell {w : World} {g : Nat} {cs : Array Value} {t : TypeId} (h : Box w g cs t) (j : Nat) : w.cell? ⟨g, j, none⟩ = cs[j]? := cell_of_row w g j cs t (0, 0) h
theorem Box.lt {w : World} {g : Nat} {cs : Array Value} {t : TypeId} (h : Box w g cs t) : g < w.heap.size := (Array.getElem?_eq_some_iff.1 h).1
theorem Box.below {w w' : World} {g : Nat} {cs : Array Value} {t : TypeId} (h : Box w g cs t) (hb : Below w.heap.size w w') : Box w' g cs t := (hb.block g h.lt).trans h
theorem Box.new (w : World) (cs : Array Value) (t : TypeId) : Box (w.alloc (.cells cs t)) w.heap.size cs t := heap_alloc_new w _

theorem Box.frozen {w : World} {g : Nat} {cs : Array Value} {t : TypeId} (h : Box w g cs t) (j : Nat) : w.frozen? ⟨g, j, none⟩ = false := frozen_of_row w g j cs t h
theorem Box.store {w : World} {g : Nat} {cs : Array Value} {t : TypeId} (h : Box w g cs t) (j : Nat) (v : Value) : Box (w.setCell ⟨g, j, none⟩ v) g (cs.setIfInBounds j v) t := heap_setCell_same w g j cs t v h
theorem Box.alloc {w : World} {g : Nat} {cs : Array Value} {t : TypeId} (h : Box w g cs t) (o : Obj) : Box (w.alloc o) g cs t := (Below.heap_alloc w o g h.lt).trans h
theorem Box.all7 {w : World} {g : Nat} {v0 v1 v2 v3 v4 v5 v6 : Value} {t : TypeId} (h : Box w g #[v0, v1, v2, v3, v4, v5, v6] t) : w.cell? ⟨g, 0, none⟩ = some v0 ∧ w.cell? ⟨g, 1, none⟩ = some v1 ∧ w.cell? ⟨g, 2, none⟩ = some v2 ∧ w.cell? ⟨g, 3, none⟩ = some v3 ∧ w.cell? ⟨g, 4, none⟩ = some v4 ∧ w.cell? ⟨g, 5, none⟩ = some v5 ∧ w.cell? ⟨g, 6, none⟩ = some v6 :=
  ⟨h.cell 0, h.cell 1, h.cell 2, h.cell 3, h.cell 4, h.cell 5, h.cell 6⟩
theorem Box.fr7 {w : World} {g : Nat} {cs : Array Value} {t : TypeId} (h : Box w g cs t) : w.frozen? ⟨g, 0, none⟩ = false ∧ w.frozen? ⟨g, 1, none⟩ = false ∧ w.frozen? ⟨g, 2, none⟩ = false ∧ w.frozen? ⟨g, 3, none⟩ = false ∧ w.frozen? ⟨g, 4, none⟩ = false ∧ w.frozen? ⟨g, 5, none⟩ = false ∧ w.frozen? ⟨g, 6, none⟩ = false :=
  ⟨h.frozen 0, h.frozen 1, h.frozen 2, h.frozen 3, h.frozen 4, h.frozen 5, h.frozen 6⟩
def set7 (w : World) (g : Nat) (u0 u1 u2 u3 u4 u5 u6 : Value) : World := (((((((w.setCell ⟨g, 0, none⟩ u0).setCell ⟨g, 1, none⟩ u1).setCell ⟨g, 2, none⟩ u2).setCell ⟨g, 3, none⟩ u3).setCell ⟨g, 4, none⟩ u4).setCell ⟨g, 5, none⟩ u5).setCell ⟨g, 6, none⟩ u6)
theorem Box.store7 {w : World} {g : Nat} {v0 v1 v2 v3 v4 v5 v6 u0 u1 u2 u3 u4 u5 u6 : Value} {t : TypeId} (h : Box w g #[v0, v1, v2, v3, v4, v5, v6] t) : Box (set7 w g u0 u1 u2 u3 u4 u5 u6) g #[u0, u1, u2, u3, u4, u5, u6] t := by
  have q := (((((((h.store 0 u0).store 1 u1).store 2 u2).store 3 u3).store 4 u4).store 5 u5).store 6 u6)
  unfold set7
  simpa using q
theorem below7 {B : Nat} {w0 w : World} {g : Nat} (h : Below B w0 w) (hg : B ≤ g) (u0 u1 u2 u3 u4 u5 u6 : Value) : Below B w0 (set7 w g u0 u1 u2 u3 u4 u5 u6) := (((((((h.setCell (p := ⟨g, 0, none⟩) hg u0).setCell (p := ⟨g, 1, none⟩) hg u1).setCell (p := ⟨g, 2, none⟩) hg u2).setCell (p := ⟨g, 3, none⟩) hg u3).setCell (p := ⟨g, 4, none⟩) hg u4).setCell (p := ⟨g, 5, none⟩) hg u5).setCell (p := ⟨g, 6, none⟩) hg u6)

/-- the blocks of the log of that many blocks -/
def lgs (n : Nat) : Nat := if n / 8 ≤ 16 then 16 else n / 8

theorem within_at (n a b : Int) (w : World) :
    Calls Try.prog 57 #[.int .i64 n, .int .i64 a, .int .i64 b] w fun r w' => r = .returned (.bool (decide (a ≤ n ∧ n ≤ b))) ∧ w = w' := by
  by_cases h1 : a ≤ n
  · by_cases h2 : n ≤ b
    · rw [decide_eq_true ⟨h1, h2⟩]
      go_enter Try.func57, Try.ntmps57
      go_wp2
      go_ret
      exact ⟨rfl, rfl⟩
    · rw [decide_eq_false (fun h => h2 h.2)]
      go_enter Try.func57, Try.ntmps57
      go_wp2
      go_ret
      exact ⟨rfl, rfl⟩
  · rw [decide_eq_false (fun h => h1 h.1)]
    go_enter Try.func57, Try.ntmps57
    go_wp2
    go_ret
    exact ⟨rfl, rfl⟩

theorem lgs_lo (n : Nat) (h : (n : Int) / 8 < 16) : lgs n = 16 := by unfold lgs; split <;> omega
theorem lgs_hi (n : Nat) (h : 16 ≤ (n : Int) / 8) : lgs n = n / 8 := by unfold lgs; split <;> omega
theorem lgs_ge (n : Nat) : 16 ≤ lgs n := by unfold lgs; split <;> omega
theorem lgs_le (n : Nat) (h : n ≤ 512) : lgs n ≤ 64 := by unfold lgs; split <;> omega
theorem lgs_free (n : Nat) (h0 : 64 ≤ n) : 3 + lgs n + n / 16 < n := by unfold lgs; split <;> omega

/-- the layout of n blocks, as a value's parts -/
def layA (n : Nat) : Array Value := #[.int .i64 n, .int .i64 2, .int .i64 (lgs n : Int), .int .i64 (2 + (lgs n : Int)), .int .i64 (3 + (lgs n : Int)), .int .i64 ((n : Int) / 16), .int .i64 (3 + (lgs n : Int) + (n : Int) / 16)]
def noneA : Array Value := #[.int .i64 0, .int .i64 0, .int .i64 0, .int .i64 0, .int .i64 0, .int .i64 0, .int .i64 0]

theorem laid_at (n : Nat) (w : World) (h0 : 64 ≤ n) (h1 : n ≤ 512) :
    Calls Try.prog 58 #[.int .i64 n] w fun r w' => r = .returned (.agg (layA n)) ∧ Below w.heap.size w w' := by
  have hx : max ((n : Int) / 8) 16 = (lgs n : Int) := by unfold lgs; split <;> omega
  unfold layA
  go_enter Try.func58, Try.ntmps58
  go_wp2
  all_goals refine bodyPost_ret (by simp [results, Try.results58, go_sem]; rfl) rfl ⟨?_, ((Below.refl w.heap.size w).alloc (Nat.le_refl _) _).alloc (by simp) _⟩
  all_goals first
    | (rw [lgs_lo n (by assumption)]; simp; done)
    | (rw [lgs_hi n (by assumption)]; simp; omega)
    | (rw [hx]; simp; omega)
    | (simp; omega)

theorem of_good (n : Nat) (w : World) (h0 : 64 ≤ n) (h1 : n ≤ 512) :
    Calls Try.prog 31 #[.int .i64 n] w fun r w' => r = .returned (.tuple #[.agg (layA n), .int .i64 0]) ∧ Below w.heap.size w w' := by
  go_enter Try.func31, Try.ntmps31
  go_wp2_with fail
  refine (within_at _ _ _ _).mono ?_
  rintro r w1 ⟨rfl, rfl⟩
  rw [decide_eq_true (by omega)]
  go_wp2_with fail
  refine (laid_at n _ h0 h1).mono ?_
  rintro r w1 ⟨rfl, b1⟩
  have bx := (Box.new w #[.int .i64 0, .int .i64 0, .int .i64 0, .int .i64 0, .int .i64 0, .int .i64 0, .int .i64 0] 34).below b1
  have B1 := ((Below.refl w.heap.size w).alloc (Nat.le_refl _) _).trans (b1.mono (by simp))
  clear b1
  obtain ⟨c0, c1, c2, c3, c4, c5, c6⟩ := bx.all7
  obtain ⟨f0, f1, f2, f3, f4, f5, f6⟩ := bx.fr7
  unfold layA
  go_wp2_with fail
  have y := bx.store7 (u0 := .int .i64 n) (u1 := .int .i64 2) (u2 := .int .i64 (lgs n : Int)) (u3 := .int .i64 (2 + (lgs n : Int))) (u4 := .int .i64 (3 + (lgs n : Int))) (u5 := .int .i64 ((n : Int) / 16)) (u6 := .int .i64 (3 + (lgs n : Int) + (n : Int) / 16))
  unfold set7 at y
  have C1 := below7 B1 (Nat.le_refl _) (.int .i64 n) (.int .i64 2) (.int .i64 (lgs n : Int)) (.int .i64 (2 + (lgs n : Int))) (.int .i64 (3 + (lgs n : Int))) (.int .i64 ((n : Int) / 16)) (.int .i64 (3 + (lgs n : Int) + (n : Int) / 16))
  unfold set7 at C1
  clear bx B1 c0 c1 c2 c3 c4 c5 c6 f0 f1 f2 f3 f4 f5 f6
  obtain ⟨c0, c1, c2, c3, c4, c5, c6⟩ := y.all7
  refine bodyPost_ret (v := .tuple #[.agg (layA n), .int .i64 0]) (by simp only [layA]; simp [results, Try.results31, go_sem, c0, c1, c2, c3, c4, c5, c6]) rfl ⟨rfl, C1⟩

theorem of_bad (n : Int) (w : World) (h : ¬(64 ≤ n ∧ n ≤ 512)) :
    Calls Try.prog 31 #[.int .i64 n] w fun r w' => r = .returned (.tuple #[.agg noneA, .int .i64 2]) ∧ Below w.heap.size w w' := by
  go_enter Try.func31, Try.ntmps31
  go_wp2_with fail
  refine (within_at _ _ _ _).mono ?_
  rintro r w1 ⟨rfl, rfl⟩
  rw [decide_eq_false h]
  go_wp2_with fail
  refine bodyPost_ret (v := .tuple #[.agg noneA, .int .i64 2]) (by simp only [noneA]; simp [results, Try.results31, go_sem]) rfl ⟨rfl, (Below.refl _ _).alloc (Nat.le_refl _) _⟩

theorem fields23 : Try.prog.underlying 34 = some (.struct (Try.prog.fieldsOf 34)) := by kernel_rfl
theorem held23 : Try.prog.stoodInHeld 34 = false := by kernel_rfl
theorem guard23 : Try.prog.eqGuardType Try.prog.depth 34 = false := by kernel_rfl
/-- seven numbers are the same -/
def same7 (a b c d e f g a' b' c' d' e' f' g' : Int) : Bool := decide (a = a' ∧ b = b' ∧ c = c' ∧ d = d' ∧ e = e' ∧ f = f' ∧ g = g')
theorem eq23 (u : World) (a b c d e f g a' b' c' d' e' f' g' : Int) : (Op.equalIn 10000 34 (.agg #[.int .i64 a, .int .i64 b, .int .i64 c, .int .i64 d, .int .i64 e, .int .i64 f, .int .i64 g]) (.agg #[.int .i64 a', .int .i64 b', .int .i64 c', .int .i64 d', .int .i64 e', .int .i64 f', .int .i64 g'])).run Try.prog u = .ok (same7 a b c d e f g a' b' c' d' e' f' g') u := by
  rw [run_equalIn_agg u 9999 34 _ _ fields23 held23]
  simp only [Program.fieldsOf, Try.underlying34]
  simp [go_sem, Op.eqFields, Try.underlying3]
  unfold same7
  by_cases h1 : a = a' <;> simp [h1]
  by_cases h2 : b = b' <;> simp [h2]
  by_cases h3 : c = c' <;> simp [h3]
  by_cases h4 : d = d' <;> simp [h4]
  by_cases h5 : e = e' <;> simp [h5]
  by_cases h6 : f = f' <;> simp [h6]
  by_cases h7 : g = g' <;> simp [h7]
theorem eql23 (u : World) (a b c d e f g a' b' c' d' e' f' g' : Int) : (binOp .eql 34 (.agg #[.int .i64 a, .int .i64 b, .int .i64 c, .int .i64 d, .int .i64 e, .int .i64 f, .int .i64 g]) (.agg #[.int .i64 a', .int .i64 b', .int .i64 c', .int .i64 d', .int .i64 e', .int .i64 f', .int .i64 g'])).run Try.prog u = .ok (.bool (same7 a b c d e f g a' b' c' d' e' f' g')) u := by
  rw [run_eql_struct, eq23]
  rfl
theorem guardE23 (u : World) (x y : Operand) (xs ys : Array Value) : (eqGuard .eql 34 x y (.agg xs) (.agg ys)).run Try.prog u = .ok () u := run_eqGuard_agg u .eql 34 x y xs ys guard23

/-- is it the layout of its blocks -/
def IsLay (a b c d e f g : Int) : Prop := ∃ n : Nat, 64 ≤ n ∧ n ≤ 512 ∧ a = n ∧ b = 2 ∧ c = lgs n ∧ d = 2 + lgs n ∧ e = 3 + lgs n ∧ f = (n : Int) / 16 ∧ g = 3 + (lgs n : Int) + (n : Int) / 16

theorem ref_good (n : Nat) (w : World) (h0 : 64 ≤ n) (h1 : n ≤ 512) :
    Calls Try.prog 34 #[.int .i64 n] w fun r w' => r = .returned (.tuple #[.agg (layA n), .int .i64 0]) ∧ Below w.heap.size w w' := by
  unfold layA
  by_cases h : (n : Int) / 8 < 16
  · go_enter Try.func34, Try.ntmps34
    go_wp2
    refine bodyPost_ret (by simp [results, Try.results34, go_sem]; rfl) rfl ⟨?_, ((Below.refl w.heap.size w).alloc (Nat.le_refl _) _).alloc (by simp) _⟩
    rw [lgs_lo n h]
    simp
  · have h' : 16 ≤ (n : Int) / 8 := by omega
    go_enter Try.func34, Try.ntmps34
    go_wp2
    refine bodyPost_ret (by simp [results, Try.results34, go_sem]; rfl) rfl ⟨?_, ((Below.refl w.heap.size w).alloc (Nat.le_refl _) _).alloc (by simp) _⟩
    rw [lgs_hi n h']
    simp
    omega

theorem ref_bad (n : Int) (w : World) (h : ¬(64 ≤ n ∧ n ≤ 512)) :
    Calls Try.prog 34 #[.int .i64 n] w fun r w' => r = .returned (.tuple #[.agg noneA, .int .i64 2]) ∧ Below w.heap.size w w' := by
  by_cases h0 : n < 64
  · go_enter Try.func34, Try.ntmps34
    go_wp2
    exact bodyPost_ret (v := .tuple #[.agg noneA, .int .i64 2]) (by simp only [noneA]; simp [results, Try.results34, go_sem]) rfl ⟨rfl, ((Below.refl w.heap.size w).alloc (Nat.le_refl _) _)⟩
  · have h1 : 512 < n := by omega
    go_enter Try.func34, Try.ntmps34
    go_wp2
    exact bodyPost_ret (v := .tuple #[.agg noneA, .int .i64 2]) (by simp only [noneA]; simp [results, Try.results34, go_sem]) rfl ⟨rfl, ((Below.refl w.heap.size w).alloc (Nat.le_refl _) _)⟩

end Go.Proofs.Ytdkaacjeogifdaa.La

/-
  The law's layout64 and made.
-/
namespace Go.Proofs.Ytdkaacjeogifdaa.H
open Go.RowKit
open Go.Proofs.Ytdkaacjeogifdaa.Rc (madeL)

def lay : Array Value := #[.int .i64 64, .int .i64 2, .int .i64 16, .int .i64 18, .int .i64 19, .int .i64 4, .int .i64 23]
theorem lay64 : La.layA 64 = lay := by
  have hL : La.lgs 64 = 16 := by decide
  simp [La.layA, hL, lay]
theorem ref64 (w : World) : Calls Try.prog 34 #[.int .i64 64] w fun r w' => r = .returned (.tuple #[.agg lay, .int .i64 0]) ∧ Below w.heap.size w w' := by
  have c := La.ref_good 64 w (by decide) (by decide)
  rw [lay64] at c
  exact c
theorem layout64_at (w : World) : Calls Try.prog 9 #[] w fun r w' => r = .returned (.agg lay) ∧ Below w.heap.size w w' := by
  have al := (Below.refl w.heap.size w).alloc (Nat.le_refl _) (.cells #[.int .i64 0, .int .i64 0, .int .i64 0, .int .i64 0, .int .i64 0, .int .i64 0, .int .i64 0] 34)
  have x0 := Dk.Box.new w #[.int .i64 0, .int .i64 0, .int .i64 0, .int .i64 0, .int .i64 0, .int .i64 0, .int .i64 0] 34
  have cO := ref64 (w.alloc (.cells #[.int .i64 0, .int .i64 0, .int .i64 0, .int .i64 0, .int .i64 0, .int .i64 0, .int .i64 0] 34))
  unfold lay at cO ⊢
  go_enter Try.func9, Try.ntmps9
  go_wp2_with fail
  refine Calls.mono cO ?_
  rintro r u1 ⟨rfl, b1⟩
  have B1 := al.trans (b1.mono al.size)
  have x1 := (x0.below b1).alloc (.cells #[.int .i64 64, .int .i64 2, .int .i64 16, .int .i64 18, .int .i64 19, .int .i64 4, .int .i64 23] 34)
  have B2 := B1.alloc B1.size (.cells #[.int .i64 64, .int .i64 2, .int .i64 16, .int .i64 18, .int .i64 19, .int .i64 4, .int .i64 23] 34)
  clear b1 cO al x0
  have f0 := x1.frozen 0
  have f1 := x1.frozen 1
  have f2 := x1.frozen 2
  have f3 := x1.frozen 3
  have f4 := x1.frozen 4
  have f5 := x1.frozen 5
  have f6 := x1.frozen 6
  have c0 := x1.cell 0
  have c1 := x1.cell 1
  have c2 := x1.cell 2
  have c3 := x1.cell 3
  have c4 := x1.cell 4
  have c5 := x1.cell 5
  have c6 := x1.cell 6
  simp at c0 c1 c2 c3 c4 c5 c6
  have x2 := ((((((x1.store 0 (.int .i64 64)).store 1 (.int .i64 2)).store 2 (.int .i64 16)).store 3 (.int .i64 18)).store 4 (.int .i64 19)).store 5 (.int .i64 4)).store 6 (.int .i64 23)
  have B3 := ((((((B2.setCell (p := ⟨w.heap.size, 0, none⟩) (Nat.le_refl _) (.int .i64 64)).setCell (p := ⟨w.heap.size, 1, none⟩) (Nat.le_refl _) (.int .i64 2)).setCell (p := ⟨w.heap.size, 2, none⟩) (Nat.le_refl _) (.int .i64 16)).setCell (p := ⟨w.heap.size, 3, none⟩) (Nat.le_refl _) (.int .i64 18)).setCell (p := ⟨w.heap.size, 4, none⟩) (Nat.le_refl _) (.int .i64 19)).setCell (p := ⟨w.heap.size, 5, none⟩) (Nat.le_refl _) (.int .i64 4)).setCell (p := ⟨w.heap.size, 6, none⟩) (Nat.le_refl _) (.int .i64 23)
  go_wp2_with fail
  have d0 := x2.cell 0
  have d1 := x2.cell 1
  have d2 := x2.cell 2
  have d3 := x2.cell 3
  have d4 := x2.cell 4
  have d5 := x2.cell 5
  have d6 := x2.cell 6
  simp at d0 d1 d2 d3 d4 d5 d6
  exact bodyPost_ret (v := .agg #[.int .i64 64, .int .i64 2, .int .i64 16, .int .i64 18, .int .i64 19, .int .i64 4, .int .i64 23]) (by simp [results, Try.results9, go_sem, d0, d1, d2, d3, d4, d5, d6]) rfl ⟨rfl, B3⟩

theorem made_at (n z : Int) (w : World) : Calls Try.prog 10 #[.int .i64 n, .int .i64 z] w fun r w' => ∃ g, r = .returned (.agg #[.int .i64 n, .slice (some ⟨g, 0, none⟩) 4096 4096]) ∧ w.heap.size ≤ g ∧ Rc.Own w' g (madeL z 4096) ∧ Below w.heap.size w w' := by
  have al := (Below.refl w.heap.size w).alloc (Nat.le_refl _) (.cells #[.int .i64 0, .slice none 0 0] 37)
  have x0 := Dk.Box.new w #[.int .i64 0, .slice none 0 0] 37
  have cM := Rc.made_at z 4096 (w.alloc (.cells #[.int .i64 0, .slice none 0 0] 37)) (by decide)
  have e1 : (w.alloc (.cells #[.int .i64 0, .slice none 0 0] 37)).heap.size = w.heap.size + 1 := by simp
  rw [e1] at cM
  clear e1
  generalize madeL z 4096 = ml at cM ⊢
  go_enter Try.func10, Try.ntmps10
  go_wp2_with fail
  refine Calls.mono cM ?_
  rintro r u1 ⟨rfl, ho, b1⟩
  have b1 : Below (w.alloc (.cells #[.int .i64 0, .slice none 0 0] 37)).heap.size (w.alloc (.cells #[.int .i64 0, .slice none 0 0] 37)) u1 := by simpa using b1
  have B1 := al.trans (b1.mono al.size)
  have x1 := x0.below b1
  clear b1 cM al x0
  have f0 := x1.frozen 0
  have f1 := x1.frozen 1
  have c0 := x1.cell 0
  have c1 := x1.cell 1
  simp at c0 c1
  have x2 := (x1.store 0 (.int .i64 n)).store 1 (.slice (some ⟨w.heap.size + 1, 0, none⟩) 4096 4096)
  have B3 := (B1.setCell (p := ⟨w.heap.size, 0, none⟩) (Nat.le_refl _) (.int .i64 n)).setCell (p := ⟨w.heap.size, 1, none⟩) (Nat.le_refl _) (.slice (some ⟨w.heap.size + 1, 0, none⟩) 4096 4096)
  have HO : Hid (Rc.Own u1 (w.heap.size + 1) ml) := ho
  clear ho
  go_wp2_with fail
  have d0 := x2.cell 0
  have d1 := x2.cell 1
  simp at d0 d1
  refine bodyPost_ret (v := .agg #[.int .i64 n, .slice (some ⟨w.heap.size + 1, 0, none⟩) 4096 4096]) (by simp [results, Try.results10, go_sem, d0, d1]) rfl ⟨w.heap.size + 1, rfl, Nat.le_succ _, ?_, B3⟩
  have e := HO.out
  unfold Rc.Own at e ⊢
  rw [heap_setCell_other, heap_setCell_other]
  · exact e
  · exact Nat.ne_of_gt (Nat.lt_succ_self _)
  · exact Nat.ne_of_gt (Nat.lt_succ_self _)
end Go.Proofs.Ytdkaacjeogifdaa.H

/-
  Home: the last image of each block stands in a map; then rising.
-/
namespace Go.Proofs.Ytdkaacjeogifdaa.H
open Go.RowKit Go.Maps
open Go.Proofs.Ytdkaacjeogifdaa.Su (wi)
open Go.Proofs.Ytdkaacjeogifdaa.Dk (Box Upd)

abbrev Im := Int × Option Addr × Nat × Nat
def imV (q : Im) : Value := .agg #[.int .i64 q.1, .slice q.2.1 q.2.2.1 q.2.2.2]
/-- the last image of each block -/
def mOf (L : List Im) : Int → Option Value := L.foldl (fun m q => fun j => if j = q.1 then some (imV q) else m j) (fun _ => none)
theorem mOf_snoc (L : List Im) (q : Im) : mOf (L ++ [q]) = fun j => if j = q.1 then some (imV q) else mOf L j := by simp [mOf, List.foldl_append]
theorem mOf_some' : ∀ (L : List Im) (m0 : Int → Option Value) (k : Int) (v : Value), (L.foldl (fun m q => fun j => if j = q.1 then some (imV q) else m j) m0) k = some v → (∃ q ∈ L, q.1 = k ∧ v = imV q) ∨ m0 k = some v
  | [], m0, k, v, h => .inr h
  | q :: r, m0, k, v, h => by
    rw [List.foldl_cons] at h
    rcases mOf_some' r _ k v h with ⟨p, hp, h1, h2⟩ | h
    · exact .inl ⟨p, List.mem_cons_of_mem _ hp, h1, h2⟩
    · by_cases e : k = q.1
      · rw [if_pos e] at h
        injection h with h
        exact .inl ⟨q, List.mem_cons_self .., e.symm, h.symm⟩
      · rw [if_neg e] at h
        exact .inr h
theorem mOf_some (L : List Im) (k : Int) (v : Value) (h : mOf L k = some v) : ∃ q ∈ L, q.1 = k ∧ v = imV q := by
  rcases mOf_some' L _ k v h with h | h
  · exact h
  · cases h
theorem nodup_le : ∀ (l r : List Int), l.Nodup → (∀ x ∈ l, x ∈ r) → l.length ≤ r.length
  | [], r, _, _ => Nat.zero_le _
  | x :: t, r, hn, hs => by
    rw [List.nodup_cons] at hn
    have h1 := hs x (List.mem_cons_self ..)
    have := nodup_le t (r.erase x) hn.2 (fun y hy => (List.mem_erase_of_ne (fun e => hn.1 (by rw [← e]; exact hy))).2 (hs y (List.mem_cons_of_mem _ hy)))
    rw [List.length_erase_of_mem h1] at this
    have h2 := List.length_pos_of_mem h1
    rw [List.length_cons]
    omega

theorem MapI.tight {w : World} {b n : Nat} {m : Int → Option Value} (h : MapI w b n m) (hk : ∀ k, (m k).isSome = true → 0 ≤ k ∧ k < 512) : MapI w b 512 m := by
  obtain ⟨D', h1, hnd, hmem⟩ := h.keys
  obtain ⟨D, ⟨es, cl, e1, e2, e3, e4⟩, h3⟩ := h
  obtain ⟨es', cl', f1, f2, f3, f4⟩ := h1
  rw [e1] at f1
  injection f1 with f1
  injection f1 with f1 f1'
  subst f1
  have hlen : (intKeys D').length = es.size := by
    rw [f4]
    simp [intKeys, length_sorted]
  have hle : (intKeys D').length ≤ 512 := by
    have hsub : ∀ x ∈ intKeys D', x ∈ (List.range 512).map (fun i : Nat => (i : Int)) := fun x hx => by
      obtain ⟨h0, h5⟩ := hk x ((hmem x).1 hx)
      exact List.mem_map.2 ⟨x.toNat, by simp; omega, by omega⟩
    have h2 := nodup_le _ _ hnd hsub
    simpa using h2
  exact ⟨D, ⟨es, cl, e1, e2, by omega, e4⟩, h3⟩

/-- groups in memory -/
structure Gr where
  e : Int
  q : Int
  a : Option Addr
  c : Nat
  is : List Im
def CellsG (w : World) (a : Option Addr) (gs : List Gr) : Prop :=
  0 < gs.length → ∃ b o, a = some ⟨b, o, none⟩ ∧ ∀ j (h : j < gs.length), w.cell? ⟨b, o + j * 3, none⟩ = some (.int .i64 gs[j].e) ∧ w.cell? ⟨b, o + j * 3 + 1, none⟩ = some (.int .i64 gs[j].q) ∧ w.cell? ⟨b, o + j * 3 + 2, none⟩ = some (.slice gs[j].a gs[j].is.length gs[j].c) ∧ CellsI w gs[j].a gs[j].is ∧ gs[j].is.length ≤ 1000000000000
def allIs (gs : List Gr) : List Im := gs.flatMap (·.is)
theorem allIs_take {gs : List Gr} {k : Nat} (h : k < gs.length) : allIs (gs.take (k + 1)) = allIs (gs.take k) ++ gs[k].is := by
  unfold allIs
  rw [List.take_succ_eq_append_getElem h, List.flatMap_append]
  simp
def rightIm (lo hi : Int) (q : Im) : Bool := wi q.1 lo hi
theorem keysIn {lo hi : Int} {L : List Im} (h : L.all (rightIm lo hi) = true) (h0 : 0 ≤ lo) (h1 : hi < 512) : ∀ k, (mOf L k).isSome = true → 0 ≤ k ∧ k < 512 := fun k hk => by
  obtain ⟨v, hv⟩ := Option.isSome_iff_exists.1 hk
  obtain ⟨q, hq, rfl, _⟩ := mOf_some L k v hv
  have := List.all_eq_true.1 h q hq
  simp [rightIm, wi] at this
  omega

/-- what stands in the loops -/
structure St (w : World) (gl gm : Nat) (LA : Array Value) (L : List Im) (lo hi : Int) (u : World) : Prop where
  map : MapI u gm 512 (mOf L)
  all : L.all (rightIm lo hi) = true
  box : Box u gl LA 34
  below : Below w.heap.size w u
theorem St.alloc {w u : World} {gl gm : Nat} {LA : Array Value} {L : List Im} {lo hi : Int} (h : St w gl gm LA L lo hi u) (o : Obj) : St w gl gm LA L lo hi (u.alloc o) :=
  ⟨h.map.below ((Below.refl _ u).alloc (Nat.le_refl _) o), h.all, h.box.alloc o, h.below.alloc h.below.size o⟩
theorem St.put {w u : World} {gl gm : Nat} {LA : Array Value} {L : List Im} {lo hi : Int} (h : St w gl gm LA L lo hi u) (hm : w.heap.size ≤ gm) (hne : gl ≠ gm) (h0 : 0 ≤ lo) (h1 : hi < 512) (q : Im) (hq : rightIm lo hi q = true) :
    ∃ u', (Instr.mapUpdate 74 (.map (some gm)) (.int .i64 q.1) (imV q)).run Try.prog u = .ok () u' ∧ St w gl gm LA (L ++ [q]) lo hi u' ∧ u.grownBy u' (some gm) := by
  have hw : (Lit.int .i64 q.1).wf = true := by
    simp [rightIm, wi] at hq
    simp [Lit.wf, IntKind.min, IntKind.max, IntKind.bits, IntKind.signed]
    omega
  obtain ⟨u', r, m, g⟩ := h.map.update (by unfold maxLen; omega) q.1 hw (imV q)
  have ha : (L ++ [q]).all (rightIm lo hi) = true := by rw [List.all_append, h.all]; simpa using hq
  rw [← mOf_snoc] at m
  exact ⟨u', r, ⟨m.tight (keysIn ha h0 h1), ha, (g.block gl h.box.lt (fun e => by injection e with e; exact hne e)).trans h.box, h.below.grown g h.below.size (fun k e => by cases e; exact hm)⟩, g⟩

theorem neq7 (u : World) (a b c d e f g a' b' c' d' e' f' g' : Int) : (binOp .neq 34 (.agg #[.int .i64 a, .int .i64 b, .int .i64 c, .int .i64 d, .int .i64 e, .int .i64 f, .int .i64 g]) (.agg #[.int .i64 a', .int .i64 b', .int .i64 c', .int .i64 d', .int .i64 e', .int .i64 f', .int .i64 g'])).run Try.prog u = .ok (.bool (!La.same7 a b c d e f g a' b' c' d' e' f' g')) u := by
  have h := La.eq23 u a b c d e f g a' b' c' d' e' f' g'
  simp only [binOp]
  simp [Op.equal, Op.maxDepth, h]

set_option maxRecDepth 100000 in
set_option maxHeartbeats 4000000 in
theorem home_in (w : World) (nb : Nat) (l1 l2 l3 l4 l5 l6 : Int) (ga : Option Addr) (gn gc : Nat) (gs : List Gr) (Q : Value → World → Prop)
    (hL : La.layA nb = #[.int .i64 nb, .int .i64 l1, .int .i64 l2, .int .i64 l3, .int .i64 l4, .int .i64 l5, .int .i64 l6])
    (h64 : 64 ≤ nb) (h512 : nb ≤ 512) (h3 : 0 ≤ l3) (hgn : gs.length = gn) (hgm : gn ≤ 1000000) (hG : CellsG w ga gs)
    (cR : (allIs gs).all (rightIm l3 (nb - 1)) = true → ∀ u gm, MapI u gm 512 (mOf (allIs gs)) → Below w.heap.size w u → Calls Try.prog 33 #[.map (some gm)] u fun r w' => ∃ v, r = .returned v ∧ Q v w' ∧ Below w.heap.size u w') :
    Calls Try.prog 8 #[.agg #[.int .i64 nb, .int .i64 l1, .int .i64 l2, .int .i64 l3, .int .i64 l4, .int .i64 l5, .int .i64 l6], .slice ga gn gc] w fun r w' =>
      ((allIs gs).all (rightIm l3 (nb - 1)) = true → ∃ v, r = .returned (.tuple #[v, .int .i64 0]) ∧ Q v w') ∧ ((allIs gs).all (rightIm l3 (nb - 1)) = false → r = .returned (.tuple #[.slice none 0 0, .int .i64 90])) ∧ Below w.heap.size w w' := by
  have al := (Below.refl w.heap.size w).alloc (Nat.le_refl _) (.cells #[.int .i64 nb, .int .i64 l1, .int .i64 l2, .int .i64 l3, .int .i64 l4, .int .i64 l5, .int .i64 l6] 34)
  have x := Box.new w #[.int .i64 nb, .int .i64 l1, .int .i64 l2, .int .i64 l3, .int .i64 l4, .int .i64 l5, .int .i64 l6] 34
  have c0 := x.cell 0
  simp only [List.getElem?_toArray, List.getElem?_cons_zero] at c0
  have cO := La.of_good nb (w.alloc (.cells #[.int .i64 nb, .int .i64 l1, .int .i64 l2, .int .i64 l3, .int .i64 l4, .int .i64 l5, .int .i64 l6] 34)) h64 h512
  rw [hL] at cO
  have HG : Hid (CellsG w ga gs) := hG
  have HN : Hid (gs.length = gn) := hgn
  have HR : Hid ((allIs gs).all (rightIm l3 (nb - 1)) = true → ∀ u gm, MapI u gm 512 (mOf (allIs gs)) → Below w.heap.size w u → Calls Try.prog 33 #[.map (some gm)] u fun r w' => ∃ v, r = .returned v ∧ Q v w' ∧ Below w.heap.size u w') := cR
  have H3 : Hid (0 ≤ l3 ∧ (nb : Int) - 1 < 512) := ⟨h3, by omega⟩
  have hq : ∀ u, (binOp .neq 34 (.agg #[.int .i64 nb, .int .i64 l1, .int .i64 l2, .int .i64 l3, .int .i64 l4, .int .i64 l5, .int .i64 l6]) (.agg #[.int .i64 nb, .int .i64 l1, .int .i64 l2, .int .i64 l3, .int .i64 l4, .int .i64 l5, .int .i64 l6])).run Try.prog u = .ok (.bool false) u := fun u => by
    rw [neq7]; simp [La.same7]
  have wr1 : IntKind.i64.wrap ((nb : Int) - 1) = nb - 1 := by rw [IntKind.wrap_i64]; omega
  have hmk := @run_makeMap Try.prog
  clear hG cR h3 hgn hL
  go_enter Try.func8, Try.ntmps8
  go_wp2_with fail
  refine Calls.mono cO ?_
  rintro r u1 ⟨rfl, b1⟩
  have B1 := al.trans (b1.mono al.size)
  have x1 := (x.below b1).alloc (.cells #[.int .i64 nb, .int .i64 l1, .int .i64 l2, .int .i64 l3, .int .i64 l4, .int .i64 l5, .int .i64 l6] 34)
  have y1 := Box.new u1 #[.int .i64 nb, .int .i64 l1, .int .i64 l2, .int .i64 l3, .int .i64 l4, .int .i64 l5, .int .i64 l6] 34
  have B2 := B1.alloc B1.size (.cells #[.int .i64 nb, .int .i64 l1, .int .i64 l2, .int .i64 l3, .int .i64 l4, .int .i64 l5, .int .i64 l6] 34)
  have zz : w.heap.size < u1.heap.size := Nat.lt_of_lt_of_le (by simp) b1.size
  have c0 := x1.cell 0
  have c1 := x1.cell 1
  have c2 := x1.cell 2
  have c3 := x1.cell 3
  have c4 := x1.cell 4
  have c5 := x1.cell 5
  have c6 := x1.cell 6
  have d0 := y1.cell 0
  have d1 := y1.cell 1
  have d2 := y1.cell 2
  have d3 := y1.cell 3
  have d4 := y1.cell 4
  have d5 := y1.cell 5
  have d6 := y1.cell 6
  simp only [List.getElem?_toArray, List.getElem?_cons_zero, List.getElem?_cons_succ] at c0 c1 c2 c3 c4 c5 c6 d0 d1 d2 d3 d4 d5 d6
  have S0 : St w w.heap.size (u1.heap.size + 1) #[.int .i64 nb, .int .i64 l1, .int .i64 l2, .int .i64 l3, .int .i64 l4, .int .i64 l5, .int .i64 l6] [] l3 (nb - 1) ((u1.alloc (.cells #[.int .i64 nb, .int .i64 l1, .int .i64 l2, .int .i64 l3, .int .i64 l4, .int .i64 l5, .int .i64 l6] 34)).alloc (.map #[] 0)) := by
    have m := MapI.made (u1.alloc (.cells #[.int .i64 nb, .int .i64 l1, .int .i64 l2, .int .i64 l3, .int .i64 l4, .int .i64 l5, .int .i64 l6] 34))
    rw [show (u1.alloc (.cells #[.int .i64 nb, .int .i64 l1, .int .i64 l2, .int .i64 l3, .int .i64 l4, .int .i64 l5, .int .i64 l6] 34)).heap.size = u1.heap.size + 1 by simp] at m
    exact ⟨m.tight (fun k h => by simp at h), rfl, x1.alloc _, B2.alloc B2.size _⟩
  have HS0 : Hid (St w w.heap.size (u1.heap.size + 1) #[.int .i64 nb, .int .i64 l1, .int .i64 l2, .int .i64 l3, .int .i64 l4, .int .i64 l5, .int .i64 l6] [] l3 (nb - 1) ((u1.alloc (.cells #[.int .i64 nb, .int .i64 l1, .int .i64 l2, .int .i64 l3, .int .i64 l4, .int .i64 l5, .int .i64 l6] 34)).alloc (.map #[] 0))) := S0
  clear cO b1 x al x1 y1 B1 B2 S0
  go_wp2_with fail
  clear c0 c1 c2 c3 c4 c5 c6 d0 d1 d2 d3 d4 d5 d6
  obtain ⟨LA, hLA⟩ : ∃ LA : Array Value, LA = #[.int .i64 nb, .int .i64 l1, .int .i64 l2, .int .i64 l3, .int .i64 l4, .int .i64 l5, .int .i64 l6] := ⟨_, rfl⟩
  have HLA : Hid (LA = #[.int .i64 nb, .int .i64 l1, .int .i64 l2, .int .i64 l3, .int .i64 l4, .int .i64 l5, .int .i64 l6]) := hLA
  rw [← hLA] at HS0
  clear hLA
  have HZ : Hid (w.heap.size < u1.heap.size) := zz
  clear zz
  go_loopw [29] (fun i u => ∃ k : Nat, k ≤ gn ∧ i = .int .i64 (k : Int) ∧ St w w.heap.size (u1.heap.size + 1) LA (allIs (gs.take k)) l3 (nb - 1) u) (fun i _ => gn - (intOf i).toNat)
  case atStart => exact ⟨0, Nat.zero_le _, rfl, by rw [HLA.out] at HS0 ⊢; exact HS0.out⟩
  case round =>
    obtain ⟨k, hk, rfl, hS⟩ := hrel
    have HS : Hid (St w w.heap.size (u1.heap.size + 1) LA (allIs (gs.take k)) l3 (nb - 1) wr) := hS
    have B := hS.below
    clear hS HS0
    by_cases hlt : k < gn
    · have hki : (k : Int) < (gn : Int) := by omega
      have hkl : k < gs.length := by rw [HN.out]; exact hlt
      obtain ⟨b, o, rfl, hcc⟩ := HG.out (by omega)
      obtain ⟨g0, g1, g2, hci, hil⟩ := hcc k hkl
      have hnext : Hid (allIs (gs.take (k + 1)) = allIs (gs.take k) ++ gs[k].is) := allIs_take hkl
      have hmem : Hid (∀ q ∈ gs[k].is, q ∈ allIs gs) := fun q hq => List.mem_flatMap.2 ⟨gs[k], List.getElem_mem hkl, hq⟩
      generalize (gs[k]'hkl) = gr at g0 g1 g2 hci hil hnext hmem
      obtain ⟨ge, gq, ia, ic, is⟩ := gr
      dsimp only at g0 g1 g2 hci hil hnext hmem
      obtain ⟨n, hn⟩ : ∃ n, n = is.length := ⟨_, rfl⟩
      have HNi : Hid (n = is.length) := hn
      rw [← hn] at g2 hil
      clear hn
      have lb := block_lt_of_cell g0
      have e0 := (B.cell (p := ⟨b, o + k * 3, none⟩) lb).trans g0
      have e1 := (B.cell (p := ⟨b, o + k * 3 + 1, none⟩) lb).trans g1
      have e2 := (B.cell (p := ⟨b, o + k * 3 + 2, none⟩) lb).trans g2
      have HCI : Hid (CellsI w ia is) := hci
      have bx := Box.new wr #[.int .i64 ge, .int .i64 gq, .slice ia n ic] 40
      have y2 := bx.cell 2
      simp only [List.getElem?_toArray, List.getElem?_cons_zero, List.getElem?_cons_succ] at y2
      have HS1 : Hid (St w w.heap.size (u1.heap.size + 1) LA (allIs (gs.take k)) l3 (nb - 1) (wr.alloc (.cells #[.int .i64 ge, .int .i64 gq, .slice ia n ic] 40))) := HS.out.alloc _
      clear g0 g1 g2 hcc hci lb bx B
      go_wp2_with fail
      clear e0 e1 e2 y2
      go_loopw [36] (fun i u => ∃ j : Nat, j ≤ n ∧ i = .int .i64 (j : Int) ∧ St w w.heap.size (u1.heap.size + 1) LA (allIs (gs.take k) ++ is.take j) l3 (nb - 1) u) (fun i _ => n - (intOf i).toNat)
      case atStart => exact ⟨0, Nat.zero_le _, rfl, by rw [List.take_zero, List.append_nil]; exact HS1.out⟩
      case round =>
        obtain ⟨j, hj, rfl, hS⟩ := hrel
        have HT : Hid (St w w.heap.size (u1.heap.size + 1) LA (allIs (gs.take k) ++ is.take j) l3 (nb - 1) wr) := hS
        have B := hS.below
        clear hS HS1 HS
        by_cases hjt : j < n
        · have hji : (j : Int) < (n : Int) := by omega
          have hjl : j < is.length := by rw [← HNi.out]; exact hjt
          obtain ⟨b2, o2, rfl, hcc⟩ := HCI.out (by omega)
          obtain ⟨g0, g1⟩ := hcc j hjl
          have hst : Hid (allIs (gs.take k) ++ is.take (j + 1) = (allIs (gs.take k) ++ is.take j) ++ [is[j]]) := by
            show _ = _
            rw [List.take_succ_eq_append_getElem hjl, List.append_assoc]
          have hin : Hid (is[j] ∈ allIs gs) := hmem.out _ (List.getElem_mem hjl)
          generalize (is[j]'hjl) = q at g0 g1 hst hin
          obtain ⟨qb, qa, qn, qc⟩ := q
          dsimp only at g0 g1
          have lb := block_lt_of_cell g0
          have e0 := (B.cell (p := ⟨b2, o2 + j * 2, none⟩) lb).trans g0
          have e1 := (B.cell (p := ⟨b2, o2 + j * 2 + 1, none⟩) lb).trans g1
          have bx := Box.new wr #[.int .i64 qb, .slice qa qn qc] 37
          have S1 := HT.out.alloc (.cells #[.int .i64 qb, .slice qa qn qc] 37)
          have lx := S1.box
          rw [HLA.out] at lx
          have y0 := bx.cell 0
          have y1 := bx.cell 1
          have z0 := lx.cell 0
          have z3 := lx.cell 3
          simp only [List.getElem?_toArray, List.getElem?_cons_zero, List.getElem?_cons_succ] at y0 y1 z0 z3
          have cW := within_at qb l3 (nb - 1) (wr.alloc (.cells #[.int .i64 qb, .slice qa qn qc] 37))
          have BB := S1.below
          clear hcc g0 g1 lb lx B
          cases hr : wi qb l3 (nb - 1) with
          | false =>
            rw [hr] at cW
            have hno : Hid ((allIs gs).all (rightIm l3 (nb - 1)) = false) := by
              show _ = _
              rw [List.all_eq_false]
              exact ⟨_, hin.out, by simp [rightIm, hr]⟩
            clear S1 hr
            go_wp2_with fail
            refine Calls.mono cW ?_
            rintro r u2 ⟨rfl, rfl⟩
            go_wp2_with fail
            exact bodyPost_ret (v := .tuple #[.slice none 0 0, .int .i64 90]) (by simp [results, Try.results8, go_sem]) rfl ⟨fun h => (by rw [hno.out] at h; cases h), fun _ => rfl, BB⟩
          | true =>
            rw [hr] at cW
            obtain ⟨u', hrun, S2, gb⟩ := S1.put (by have := HZ.out; omega) (by have := HZ.out; omega) H3.out.1 H3.out.2 (qb, qa, qn, qc) hr
            have HS2 : Hid (St w w.heap.size (u1.heap.size + 1) LA ((allIs (gs.take k) ++ is.take j) ++ [(qb, qa, qn, qc)]) l3 (nb - 1) u') := S2
            unfold imV at hrun
            dsimp only at hrun
            clear S1 S2 gb hr
            go_wp2_with fail
            refine Calls.mono cW ?_
            rintro r u2 ⟨rfl, rfl⟩
            go_wp2_with fail
            go_roundw
            case rel => exact ⟨j + 1, by omega, by push_cast; rfl, by rw [hst.out]; exact HS2.out⟩
            case measure => simp [intOf]; omega
        · have hje : j = n := by omega
          have hS2 : Hid (St w w.heap.size (u1.heap.size + 1) LA (allIs (gs.take (k + 1))) l3 (nb - 1) wr) := by
            have := HT.out
            rw [hje, HNi.out, List.take_length, ← hnext.out] at this
            exact this
          clear HT B
          subst hje
          go_wp2_with fail
          go_roundw
          case rel => exact ⟨k + 1, by omega, by push_cast; rfl, hS2.out⟩
          case measure => simp [intOf]; omega
    · have hke : k = gn := by omega
      have hS2 : St w w.heap.size (u1.heap.size + 1) LA (allIs gs) l3 (nb - 1) wr := by
        have := HS.out
        rw [hke, ← HN.out, List.take_length] at this
        exact this
      have cc := HR.out hS2.all wr (u1.heap.size + 1) hS2.map hS2.below
      have HA : Hid ((allIs gs).all (rightIm l3 (nb - 1)) = true) := hS2.all
      clear HS hS2
      subst hke
      go_wp2_with fail
      refine Calls.mono cc ?_
      rintro r u2 ⟨v, rfl, hQ, b2⟩
      go_wp2_with fail
      exact bodyPost_ret (v := .tuple #[v, .int .i64 0]) (by simp [results, Try.results8, go_sem]) rfl ⟨fun _ => ⟨v, rfl, hQ⟩, fun h => (by rw [HA.out] at h; cases h), B.trans b2⟩
end Go.Proofs.Ytdkaacjeogifdaa.H

/-
  slices.Sorted(maps.Keys(m)): the keys, by rising numbers.
-/
namespace Go.Proofs.Ytdkaacjeogifdaa.H
open Go.RowKit Go.Maps Go.Sort Go.Shelf

theorem keys_at (mb : Option Nat) (W : World) : Calls Try.prog 60 #[.map mb] W fun e w' => e = .returned (.func (.func 76) #[] #[.pointer (some ⟨W.heap.size, 0, none⟩)]) ∧ w' = W.alloc (.cells #[.map mb] 74) :=
  (callsIn_wide (n := 5)).1 (AnyZI.keys_in keysA Fence.wide 5 trivial rfl mb W)

/-- ks are m's keys, rising -/
def Rising (m : Int → Option Value) (ks : List Int) : Prop := ks.Pairwise (· < ·) ∧ ∀ x, x ∈ ks ↔ (m x).isSome = true
theorem rising_of {m : Int → Option Value} {ss : List Int} (hnd : ss.Nodup) (hm : ∀ x, x ∈ ss ↔ (m x).isSome = true) : Rising m (ss.mergeSort (fun x y => decide (x ≤ y))) := by
  refine ⟨?_, fun x => by rw [List.mem_mergeSort]; exact hm x⟩
  have h1 := List.pairwise_mergeSort (le := fun x y : Int => decide (x ≤ y)) (fun a b c h1 h2 => by simp only [decide_eq_true_eq] at *; omega) (fun a b => by simp only [Bool.or_eq_true, decide_eq_true_eq]; omega) ss
  have h2 : (ss.mergeSort (fun x y => decide (x ≤ y))).Nodup := (List.mergeSort_perm ss _).nodup_iff.2 hnd
  refine (h1.and h2).imp fun {a b} h => ?_
  have := h.1
  simp only [decide_eq_true_eq] at this
  have := h.2
  omega

theorem sorted_at {w : World} {b n : Nat} {m : Int → Option Value} (h : MapI w b n m) (hn : n ≤ 100000) :
    Calls Try.prog 59 #[.func (.func 76) #[] #[.pointer (some ⟨w.heap.size, 0, none⟩)]] (w.alloc (.cells #[.map (some b)] 74)) fun e w' =>
      ∃ v ks, e = .returned v ∧ Rising m ks ∧ ks.length ≤ n ∧ w'.ownsRow w.heap.size 3 1 v ks.length (ks.map encZ) ∧ Below w.heap.size w w' := by
  obtain ⟨D0, hown, hnd, hmem⟩ := h.keys
  have hbl := hown.lt
  have hsz := hown.size_le
  have hseq : SeqGives Fence.wide 2 Try.prog 76 #[.pointer (some ⟨w.heap.size, 0, none⟩)] encZ (fun ss => ss.Perm (intKeys D0)) (Maps.size D0) (w.alloc (.cells #[.map (some b)] 74)) :=
    AnyZI.keys_gives (ρ := keysA_ren) { keysA with } Fence.wide _ trivial rfl (by omega) w.heap.size b n D0 _ (by simp) (by simp) (by
      obtain ⟨es, clock, hb, Ft, hs, hD⟩ := hown
      exact ⟨es, clock, (Below.heap_alloc _ _ b hbl).trans hb, Ft, hs, hD⟩)
  have cS := AnyZI.sorted_in sortedA Fence.wide 5 trivial trivial trivial trivial rfl (by omega) (sortsA _) (enters_of Try.func75 (by kernel_rfl) rfl) 76 #[.pointer (some ⟨w.heap.size, 0, none⟩)] trivial (enters_of Try.func76 (by kernel_rfl) rfl) _ _ (by unfold maxLen; omega) (by omega) _ hseq
  change CallsIn _ _ Try.prog 59 _ _ _ at cS
  refine ((callsIn_wide).1 cS).mono ?_
  rintro e w' ⟨v, ss, rfl, hS, hrow, hnil, hb⟩
  have hl : (ss.mergeSort (fun x y => decide (x ≤ y))).length = ss.length := List.length_mergeSort ss
  have hl2 : ss.length = Maps.size D0 := by
    rw [hS.length_eq]
    obtain ⟨es, rfl⟩ := hown.isMap
    simp [intKeys, size_eq]
  refine ⟨v, _, rfl, rising_of (hS.nodup_iff.2 hnd) (fun x => by rw [hS.mem_iff]; exact hmem x), by rw [hl, hl2]; exact hsz, ?_, ((Below.refl _ w).alloc (Nat.le_refl _) _).trans (hb.mono (by simp))⟩
  rw [hl]
  exact owns_le hrow (by simp)
end Go.Proofs.Ytdkaacjeogifdaa.H

/-
  rising: the images by rising blocks, each datum a copy.
-/
namespace Go.Proofs.Ytdkaacjeogifdaa.H
open Go.RowKit Go.Maps
open Go.Proofs.Ytdkaacjeogifdaa.Rc (GG GetJ imgC madeL RowB owns_below owns_shape owns_block Box)

theorem owns_cells {w : World} {B e size n m : Nat} {a : Option Addr} {c : Nat} {xs : List Value} (ho : w.ownsRow B e size (.slice a n c) m xs) (h0 : 0 < m) :
    ∃ g, a = some ⟨g, 0, none⟩ ∧ B ≤ g ∧ (∃ cur, Box w g cur e) ∧ ∀ j, j < m * size → w.cell? ⟨g, j, none⟩ = xs[j]? := by
  rcases ho.2 with ⟨h1, h2⟩ | ⟨g, cap, cur, h1, hBg, hg2, hnc, hcm, hcs, ht⟩
  · omega
  · injection h1 with h1
    subst h1
    have hB : Box w g cur e := hg2
    refine ⟨g, rfl, hBg, ⟨cur, hB⟩, fun j hj => ?_⟩
    rw [hB.cell j, ← ht, List.getElem?_take, if_pos hj]
    simp

/-- what m holds: images of whole blocks -/
def Whole (w : World) (m : Int → Option Value) (dat : Int → List UInt8) : Prop := ∀ k, (m k).isSome = true → ∃ g o c, m k = some (.agg #[.int .i64 k, .slice (some ⟨g, o, none⟩) 4096 c]) ∧ Rc.Rd w (some ⟨g, o, none⟩) (dat k) ∧ (dat k).length = 4096

set_option maxRecDepth 100000 in
set_option maxHeartbeats 4000000 in
theorem rising_at {w : World} {b n : Nat} {m : Int → Option Value} {dat : Int → List UInt8} (h : MapI w b n m) (hn : n ≤ 1000) (hw : Whole w m dat) :
    Calls Try.prog 33 #[.map (some b)] w fun r w' => ∃ a' c' ks qs, r = .returned (.slice a' (List.length ks) c') ∧ Rising m ks ∧ ks.length ≤ n ∧ w'.ownsRow w.heap.size 37 2 (.slice a' ks.length c') ks.length (imgC qs) ∧ GetJ w.heap.size w' qs ∧ qs.map (fun p => (p.b, p.xs)) = ks.map (fun k => (k, dat k)) ∧ Below w.heap.size w w' := by
  obtain ⟨i0, hi, hz0, hz1, hz2⟩ := info_parts Rc.info38
  have cK := keys_at (some b) w
  have cS := sorted_at h (by omega : n ≤ 100000)
  have HW : Hid (Whole w m dat) := hw
  have HM : Hid (MapI w b n m) := h
  clear h hw
  go_enter Try.func33, Try.ntmps33
  go_wp2_with fail
  refine Calls.mono cK ?_
  rintro r u1 ⟨rfl, rfl⟩
  clear cK
  go_wp2_with fail
  refine Calls.mono cS ?_
  rintro r u2 ⟨v, ks, rfl, hR, hkn, hrow, b2⟩
  have HR : Hid (Rising m ks) := hR
  have HRow : Hid (u2.ownsRow w.heap.size 3 1 v ks.length (ks.map encZ)) := hrow
  obtain ⟨ak, ck, rfl⟩ := owns_shape hrow
  obtain ⟨N, hN⟩ : ∃ N, N = ks.length := ⟨_, rfl⟩
  have HN : Hid (N = ks.length) := hN
  rw [← hN] at HRow hkn ⊢
  clear hN hrow hR cS
  go_wp2_with fail
  go_loopw [3, 10] (fun v i u => ∃ (k : Nat) (qs : List GG), k ≤ N ∧ i = .int .i64 (k : Int) ∧ u.ownsRow u2.heap.size 37 2 v k (imgC qs) ∧ GetJ w.heap.size u qs ∧ qs.map (fun p => (p.b, p.xs)) = (ks.take k).map (fun k => (k, dat k)) ∧ Below u2.heap.size u2 u) (fun _ i _ => N - (intOf i).toNat)
  case atStart => exact ⟨0, [], Nat.zero_le _, rfl, World.ownsRow_nil _ _ _ _, ⟨fun p hp => (by cases hp), List.nodup_nil⟩, by simp, Below.refl _ _⟩
  case round =>
    obtain ⟨k, qs, hk, rfl, hown, hJ, hps, B⟩ := hrel
    have HPS : Hid (qs.map (fun p => (p.b, p.xs)) = (ks.take k).map (fun k => (k, dat k))) := hps
    have HJ : Hid (GetJ w.heap.size wr qs) := hJ
    have HOWN : Hid (wr.ownsRow u2.heap.size 37 2 u3 k (imgC qs)) := hown
    clear hps hJ
    obtain ⟨av, cv, rfl⟩ := owns_shape hown
    by_cases hlt : k < N
    · have hki : (k : Int) < (N : Int) := by omega
      have hkl : k < ks.length := by rw [← HN.out]; exact hlt
      obtain ⟨kg, rfl, _, _, hc⟩ := owns_cells HRow.out (by omega)
      obtain ⟨K, hK⟩ : ∃ K, K = ks[k] := ⟨_, rfl⟩
      have ck0 : u2.cell? ⟨kg, k, none⟩ = some (.int .i64 K) := by
        rw [hc k (by omega), hK]
        simp [hkl]
      have ckw : wr.cell? ⟨kg, k, none⟩ = some (.int .i64 K) := (B.cell (p := ⟨kg, k, none⟩) (block_lt_of_cell ck0)).trans ck0
      obtain ⟨g, o, c, em, rd, hl⟩ := HW.out K ((HR.out.2 K).1 (by rw [hK]; exact List.getElem_mem hkl))
      have Bw : Below w.heap.size w wr := b2.trans (B.mono b2.size)
      have lk := (HM.out.below Bw).look K _ em
      have cC := Rc.clone_at c 4096 g o (dat K) wr hl (by decide) (by decide) (rd.below Bw (Nat.le_refl _))
      have hstep : Hid ((ks.take (k + 1)).map (fun k => (k, dat k)) = (ks.take k).map (fun k => (k, dat k)) ++ [(K, dat K)]) := by
        show _ = _
        rw [List.take_succ_eq_append_getElem hkl, List.map_append, hK]; rfl
      have hml : Hid ((dat K).length = 4096) := hl
      generalize dat K = ml at cC hstep hml
      clear hown hc ck0 hK rd hl em
      have fd : (Instr.field 37 (.agg #[.int .i64 K, .slice (some ⟨g, o, none⟩) 4096 c]) 1).run Try.prog wr = .ok (.slice (some ⟨g, o, none⟩) 4096 c) wr := by kernel_rfl
      go_wp2_with fail
      refine Calls.mono cC ?_
      rintro r W ⟨hg, cg, rfl, hgl, om, bW⟩
      have z0 : w.heap.size ≤ wr.heap.size := Bw.size
      have J2 : Hid (GetJ w.heap.size W (qs ++ [⟨K, ml, hg, cg⟩])) := HJ.out.snoc bW ⟨K, ml, hg, cg⟩ om hgl hml.out z0
      have O2 : Hid (W.ownsRow u2.heap.size 37 2 (.slice av k cv) k (imgC qs)) := owns_below HOWN.out bW
      have B1 := B.trans (bW.mono B.size)
      have own1 := (O2.out).alloc (.cells #[.int .i64 K, .slice (some ⟨hg, 0, none⟩) 4096 cg] 37)
      have z1 := B1.size
      have z2 := b2.size
      clear om bW cC B fd lk ckw
      go_wp2_with (at_builtin; refine wpList_append_own _ rfl _ _ 29 rfl u2.heap.size 37 i0 _ 2 32 Try.underlying29 hi hz0 hz1 hz2 rfl (by decide) _ k _ rfl own1 ⟨W.heap.size, 0, none⟩ 1 1 [.int .i64 K, .slice (some ⟨hg, 0, none⟩) 4096 cg] rfl rfl ?c1 ?c2 ?c3 ?c4 ?c5 ?_)
      case c1 => exact World.news_of_block (cs := #[.int .i64 K, .slice (some ⟨hg, 0, none⟩) 4096 cg]) (t := 37) (fr := (0, 0)) (heap_alloc_new W _)
      case c2 => intro u hu; simp at hu; rcases hu with rfl | rfl <;> rfl
      case c3 => unfold maxLen; omega
      case c4 => omega
      case c5 => simp; omega
      · intro v' w1 hown1 hgrow _
        have al := (Below.refl _ W).alloc (Nat.le_refl _) (.cells #[.int .i64 K, .slice (some ⟨hg, 0, none⟩) 4096 cg] 37)
        have B2 : Below u2.heap.size u2 w1 := (B1.alloc z1 _).grown hgrow (by simp; omega) (fun j e => (owns_block O2.out j e).1)
        have J3 : GetJ w.heap.size w1 (qs ++ [⟨K, ml, hg, cg⟩]) := (J2.out.below al).grown own1 (by decide) hgrow
        clear hgrow own1 al
        go_wp2_with fail
        go_roundw
        case rel => exact ⟨k + 1, _, by omega, by push_cast; rfl, by simpa [imgC] using hown1, J3, by rw [List.map_append, HPS.out, hstep.out]; rfl, B2⟩
        case measure => simp [intOf]; omega
    · have hke : k = N := by omega
      have hke2 : ks.take k = ks := by rw [hke, HN.out, List.take_length]
      rw [hke2] at HPS
      rw [hke] at HOWN ⊢
      clear hke hlt hk hown hke2
      go_wp2_with fail
      go_ret
      refine ⟨av, cv, ks, qs, by rw [HN.out]; rfl, HR.out, by rw [← HN.out]; exact hkn, ?_, HJ.out, HPS.out, b2.trans (B.mono b2.size)⟩
      rw [← HN.out]
      exact owns_le HOWN.out b2.size
end Go.Proofs.Ytdkaacjeogifdaa.H

/-
  Blocks of one byte, blocks of two; what a quiet disk does. No program is named here.
-/
namespace Go.Proofs.Ytdkaacjeogifdaa.Dk

/-- the first k bytes are c, the others noughts -/
def fillK (c : UInt8) (k : Nat) : List UInt8 := (List.range 4096).map fun i => if i < k then c else 0
def fill (c : UInt8) : List UInt8 := fillK c 4096
theorem fillK_length (c : UInt8) (k : Nat) : (fillK c k).length = 4096 := by simp [fillK]
theorem fill_length (c : UInt8) : (fill c).length = 4096 := fillK_length c 4096
theorem fillK_get (c : UInt8) (k i : Nat) : (fillK c k)[i]? = if i < 4096 then some (if i < k then c else 0) else none := by
  unfold fillK
  rw [List.getElem?_map]
  by_cases h : i < 4096
  · rw [List.getElem?_range h, if_pos h]; rfl
  · rw [List.getElem?_eq_none (by simp; omega), if_neg h]; rfl
theorem fillK_zero (c : UInt8) : fillK c 0 = List.replicate 4096 0 := by
  apply List.ext_getElem?
  intro i
  rw [fillK_get, List.getElem?_replicate]
  simp
theorem fillK_set (c : UInt8) (k : Nat) (h : k < 4096) : (fillK c k).set k c = fillK c (k + 1) := by
  apply List.ext_getElem?
  intro i
  rw [List.getElem?_set, fillK_get, fillK_get, fillK_length]
  by_cases e : k = i
  · subst e
    rw [if_pos rfl, if_pos h, if_pos h, if_pos (by omega)]
  · rw [if_neg e]
    by_cases h1 : i < k
    · rw [if_pos h1, if_pos (show i < k + 1 by omega)]
    · rw [if_neg h1, if_neg (show ¬ i < k + 1 by omega)]
theorem fill_get (c : UInt8) (i : Nat) (h : i < 4096) : (fill c)[i]? = some c := by
  unfold fill
  rw [fillK_get, if_pos h, if_pos h]

/-- .. of the first k bytes those of b's sectors are b -/
def mixK (a b : UInt8) (m k : Nat) : List UInt8 := (List.range 4096).map fun i => if i < k ∧ bit m (i / 512) = true then b else a
theorem mixK_length (a b : UInt8) (m k : Nat) : (mixK a b m k).length = 4096 := by simp [mixK]
theorem mixK_get (a b : UInt8) (m k i : Nat) : (mixK a b m k)[i]? = if i < 4096 then some (if i < k ∧ bit m (i / 512) = true then b else a) else none := by
  unfold mixK
  rw [List.getElem?_map]
  by_cases h : i < 4096
  · rw [List.getElem?_range h, if_pos h]; rfl
  · rw [List.getElem?_eq_none (by simp; omega), if_neg h]; rfl
theorem mixK_zero (a b : UInt8) (m : Nat) : mixK a b m 0 = fill a := by
  apply List.ext_getElem?
  intro i
  rw [mixK_get]
  by_cases h : i < 4096
  · rw [if_pos h, fill_get a i h, if_neg (by rintro ⟨h1, _⟩; omega)]
  · rw [if_neg h, List.getElem?_eq_none (by rw [fill_length]; omega)]
theorem mixK_set (a b : UInt8) (m k : Nat) (h : k < 4096) (hb : bit m (k / 512) = true) : (mixK a b m k).set k b = mixK a b m (k + 1) := by
  apply List.ext_getElem?
  intro i
  rw [List.getElem?_set, mixK_get, mixK_get, mixK_length]
  by_cases e : k = i
  · subst e
    rw [if_pos rfl, if_pos h, if_pos h, if_pos ⟨by omega, hb⟩]
  · rw [if_neg e]
    by_cases h1 : i < k ∧ bit m (i / 512) = true
    · have h2 : i < k + 1 ∧ bit m (i / 512) = true := ⟨by omega, h1.2⟩
      simp only [if_pos h1, if_pos h2]
    · have h2 : ¬ (i < k + 1 ∧ bit m (i / 512) = true) := fun h2 => h1 ⟨by have := h2.1; omega, h2.2⟩
      simp only [if_neg h1, if_neg h2]
theorem mixK_skip (a b : UInt8) (m k : Nat) (hb : bit m (k / 512) = false) : mixK a b m (k + 1) = mixK a b m k := by
  apply List.ext_getElem?
  intro i
  rw [mixK_get, mixK_get]
  by_cases h1 : i < k ∧ bit m (i / 512) = true
  · have h2 : i < k + 1 ∧ bit m (i / 512) = true := ⟨by omega, h1.2⟩
    simp only [if_pos h1, if_pos h2]
  · have h2 : ¬ (i < k + 1 ∧ bit m (i / 512) = true) := fun h2 => by
      by_cases e : i = k
      · subst e; rw [hb] at h2; exact absurd h2.2 (by simp)
      · exact h1 ⟨by have := h2.1; omega, h2.2⟩
    simp only [if_neg h1, if_neg h2]

theorem blk_carry_all (d : List UInt8) (b : Nat) (data : List UInt8) (hb : b * 4096 + 4096 ≤ d.length) (hd : data.length = 4096) : blk (carry d b data 255) b = data := by
  apply List.ext_getElem?
  intro i
  rw [blk_get]
  by_cases h : i < 4096
  · have e : b * 4096 + i - b * 4096 = i := by omega
    have hq : i / 512 < 8 := by clear hb hd e; omega
    rw [if_pos h, carry_get d b data 255 hb hd, e, if_pos ⟨Nat.le_add_right _ _, Nat.add_lt_add_left h _, bit_all _ hq⟩]
  · rw [if_neg h, List.getElem?_eq_none (by omega)]
theorem blk_carry_other (d : List UInt8) (b n : Nat) (data : List UInt8) (m : Nat) (hb : b * 4096 + 4096 ≤ d.length) (hd : data.length = 4096) (hn : n ≠ b) : blk (carry d b data m) n = blk d n := by
  apply List.ext_getElem?
  intro i
  rw [blk_get, blk_get]
  by_cases h : i < 4096
  · rw [if_pos h, if_pos h, carry_get d b data m hb hd, if_neg (fun h1 => by have h2 := h1.1; have h3 := h1.2.1; omega)]
  · rw [if_neg h, if_neg h]
theorem blk_carry_mix (d : List UInt8) (b : Nat) (x y : UInt8) (m : Nat) (hb : b * 4096 + 4096 ≤ d.length) (hd : blk d b = fill x) : blk (carry d b (fill y) m) b = mixK x y m 4096 := by
  apply List.ext_getElem?
  intro i
  rw [blk_get, mixK_get]
  by_cases h : i < 4096
  · have e : b * 4096 + i - b * 4096 = i := by omega
    have e2 : d[b * 4096 + i]? = some x := by
      have := blk_get d b i
      rw [hd, if_pos h, fill_get x i h] at this
      exact this.symm
    rw [if_pos h, if_pos h, carry_get d b (fill y) m hb (fill_length y), e]
    by_cases hbit : bit m (i / 512) = true
    · rw [if_pos ⟨Nat.le_add_right _ _, Nat.add_lt_add_left h _, hbit⟩, if_pos ⟨h, hbit⟩, fill_get y i h]
    · rw [if_neg (fun q => hbit q.2.2), if_neg (fun q => hbit q.2), e2]
  · rw [if_neg h, if_neg h]
theorem blk_nought (n b : Nat) (h : b * 4096 + 4096 ≤ n) : blk (List.replicate n 0) b = fill 0 := by
  apply List.ext_getElem?
  intro i
  rw [blk_get]
  by_cases hi : i < 4096
  · rw [if_pos hi, fill_get 0 i hi, List.getElem?_replicate, if_pos (by omega)]
  · rw [if_neg hi, List.getElem?_eq_none (by rw [fill_length]; omega)]

/-- a disk with its power on, and nothing armed -/
def DS.quiet (D : DS) : Prop := D.gone = false ∧ D.arm = ⟨false, 0⟩ ∧ D.fail = ⟨false, 0⟩
theorem DS.quiet.operE {D : DS} (h : D.quiet) : D.operE = 0 := by
  obtain ⟨h1, h2, h3⟩ := h
  simp [DS.operE, h1, h2, h3, Fuse.stops]
theorem DS.quiet.oper {D : DS} (h : D.quiet) : D.oper = D := by
  obtain ⟨nb, dur, uf, n, gone, arm, fail⟩ := D
  obtain ⟨h1, h2, h3⟩ := h
  dsimp only at h1 h2 h3
  subst h1 h2 h3
  rfl
theorem DS.quiet.write {D : DS} (h : D.quiet) (n : Nat) (b : List UInt8) (hn : n < D.nb) (hb : b.length = 4096) : D.write (n : Int) b = { D with uf := D.uf ++ [(n, b)], n := D.n + 1 } := by
  have hh : D.has (n : Int) = true := by simp [DS.has]; omega
  unfold DS.write
  rw [hh, h.operE, h.oper, hb]
  simp
theorem DS.quiet.writeE {D : DS} (h : D.quiet) (n : Nat) (b : List UInt8) (hn : n < D.nb) (hb : b.length = 4096) : D.writeE (n : Int) b = 0 := by
  have hh : D.has (n : Int) = true := by simp [DS.has]; omega
  unfold DS.writeE
  rw [hh, h.operE, hb]
  simp
theorem DS.quiet.flush {D : DS} (h : D.quiet) : D.flush = { D with dur := D.image, uf := [] } := by
  unfold DS.flush
  rw [if_pos h.operE, h.oper]
theorem DS.new_quiet (nb : Nat) (d : List UInt8) : (DS.new nb d).quiet := ⟨rfl, rfl, rfl⟩
theorem DS.crash_quiet (D : DS) (ks : List Bool) (t : Int) (m : Nat) : (D.crash ks t m).quiet := ⟨rfl, rfl, rfl⟩
end Go.Proofs.Ytdkaacjeogifdaa.Dk

/-
  Plain lists: images are laid, a superblock behind them; what any crash leaves. No program is named here.
-/
namespace Go.Proofs.Ytdkaacjeogifdaa.H
open Go.Proofs.Ytdkaacjeogifdaa.Dk

/-- images are written one behind the other, then flushed; the first error ends it -/
def layD : List (Int × List UInt8) → DS → DS × Nat
  | [], D => (D.flush, D.operE)
  | p :: r, D => if D.writeE p.1 p.2 = 0 then layD r (D.write p.1 p.2) else (D.write p.1 p.2, D.writeE p.1 p.2)
def doD (ims : List (Int × List UInt8)) (slot : Int) (sb : List UInt8) (D : DS) : DS × Nat :=
  if (layD ims D).2 = 0 then layD [(slot, sb)] (layD ims D).1 else layD ims D

theorem oper_keeps (D : DS) : D.oper.nb = D.nb ∧ D.oper.dur = D.dur ∧ D.oper.uf = D.uf ∧ D.oper.n = D.n := ⟨D.oper_nb, D.oper_dur, D.oper_uf, D.oper_n⟩
theorem write_le (D : DS) (n : Int) (b : List UInt8) : (D.write n b).nb = D.nb ∧ (D.write n b).uf.length ≤ D.uf.length + 1 ∧ (D.write n b).n ≤ D.n + 1 := by
  obtain ⟨h1, h2, h3, h4⟩ := oper_keeps D
  unfold DS.write
  split
  · split
    · exact ⟨h1, by simp, Nat.le_refl _⟩
    · exact ⟨h1, by rw [h3]; omega, by rw [h4]; omega⟩
  · exact ⟨rfl, by omega, by omega⟩
theorem flush_le (D : DS) : D.flush.nb = D.nb ∧ D.flush.uf.length ≤ D.uf.length ∧ D.flush.n = D.n := by
  obtain ⟨h1, h2, h3, h4⟩ := oper_keeps D
  unfold DS.flush
  split
  · exact ⟨h1, by simp, h4⟩
  · exact ⟨h1, by rw [h3]; omega, h4⟩
theorem layD_le : ∀ (ims : List (Int × List UInt8)) (D : DS), (layD ims D).1.nb = D.nb ∧ (layD ims D).1.uf.length ≤ D.uf.length + ims.length ∧ (layD ims D).1.n ≤ D.n + ims.length
  | [], D => by
    obtain ⟨h1, h2, h3⟩ := flush_le D
    exact ⟨h1, by simpa [layD] using h2, by show D.flush.n ≤ _; rw [h3]; simp⟩
  | p :: r, D => by
    obtain ⟨h1, h2, h3⟩ := write_le D p.1 p.2
    unfold layD
    split
    · obtain ⟨i1, i2, i3⟩ := layD_le r (D.write p.1 p.2)
      exact ⟨i1.trans h1, by simp; omega, by simp; omega⟩
    · exact ⟨h1, by simp; omega, by simp; omega⟩
theorem doD_le (ims : List (Int × List UInt8)) (slot : Int) (sb : List UInt8) (D : DS) : (doD ims slot sb D).1.nb = D.nb ∧ (doD ims slot sb D).1.uf.length ≤ D.uf.length + (ims.length + 1) ∧ (doD ims slot sb D).1.n ≤ D.n + (ims.length + 1) := by
  obtain ⟨h1, h2, h3⟩ := layD_le ims D
  unfold doD
  split
  · obtain ⟨i1, i2, i3⟩ := layD_le [(slot, sb)] (layD ims D).1
    simp only [List.length_cons, List.length_nil] at i2 i3
    exact ⟨i1.trans h1, by omega, by omega⟩
  · exact ⟨h1, by omega, by omega⟩

/-- What may be written to a disk of 64 blocks, and what its bytes then are: a property of bytes that each write of W keeps, whole or torn, stays. -/
structure Stays (Q : List UInt8 → Prop) (W : Nat × List UInt8 → Prop) : Prop where
  keep : ∀ d b x m, Q d → W (b, x) → Q (carry d b x m)
def Held (Q : List UInt8 → Prop) (W : Nat × List UInt8 → Prop) (D : DS) : Prop := Q D.dur ∧ ∀ p ∈ D.uf, W p
theorem Stays.carryTo {Q : List UInt8 → Prop} {W : Nat × List UInt8 → Prop} (s : Stays Q W) {uf : List (Nat × List UInt8)} {d : List UInt8} (hq : Q d) (hw : ∀ p ∈ uf, W p) : ∀ k, Q (carryTo uf d k)
  | 0 => hq
  | k + 1 => by
    have ih := s.carryTo hq hw k
    unfold Dk.carryTo
    cases e : uf[k]? with
    | none => exact ih
    | some w => exact s.keep _ _ _ _ ih (hw _ (List.mem_of_getElem? e))
theorem Stays.crashTo {Q : List UInt8 → Prop} {W : Nat × List UInt8 → Prop} (s : Stays Q W) {uf : List (Nat × List UInt8)} {d : List UInt8} (hq : Q d) (hw : ∀ p ∈ uf, W p) (ks : List Bool) (t : Int) (m : Nat) : ∀ k, Q (crashTo ks t m uf d k)
  | 0 => hq
  | k + 1 => by
    have ih := s.crashTo hq hw ks t m k
    unfold Dk.crashTo
    cases e : uf[k]? with
    | none => exact ih
    | some w =>
      have hm := hw _ (List.mem_of_getElem? e)
      show Q (if _ then carry _ _ _ _ else if _ then carry _ _ _ _ else _)
      split
      · exact s.keep _ _ _ _ ih hm
      · split
        · exact s.keep _ _ _ _ ih hm
        · exact ih
theorem Stays.crash {Q : List UInt8 → Prop} {W : Nat × List UInt8 → Prop} (s : Stays Q W) {D : DS} (h : Held Q W D) (ks : List Bool) (t : Int) (m : Nat) : Held Q W (D.crash ks t m) :=
  ⟨s.crashTo h.1 h.2 ks t m _, fun p hp => by simp [DS.crash] at hp⟩
theorem Stays.flush {Q : List UInt8 → Prop} {W : Nat × List UInt8 → Prop} (s : Stays Q W) {D : DS} (h : Held Q W D) : Held Q W D.flush := by
  obtain ⟨h1, h2, h3, h4⟩ := oper_keeps D
  unfold DS.flush
  split
  · exact ⟨s.carryTo h.1 h.2 _, fun p hp => by simp at hp⟩
  · exact ⟨by rw [h2]; exact h.1, by rw [h3]; exact h.2⟩
theorem Held.write {Q : List UInt8 → Prop} {W : Nat × List UInt8 → Prop} {D : DS} (h : Held Q W D) (n : Int) (b : List UInt8) (hw : W (n.toNat, b)) : Held Q W (D.write n b) := by
  obtain ⟨h1, h2, h3, h4⟩ := oper_keeps D
  unfold DS.write
  split
  · split
    · refine ⟨by show Q D.oper.dur; rw [h2]; exact h.1, fun p hp => ?_⟩
      rcases List.mem_append.1 hp with hp | hp
      · exact h.2 p hp
      · simp at hp; rw [hp]; exact hw
    · exact ⟨by rw [h2]; exact h.1, by rw [h3]; exact h.2⟩
  · exact h
theorem Stays.lay {Q : List UInt8 → Prop} {W : Nat × List UInt8 → Prop} (s : Stays Q W) : ∀ (ims : List (Int × List UInt8)) {D : DS}, Held Q W D → (∀ p ∈ ims, W (p.1.toNat, p.2)) → Held Q W (layD ims D).1
  | [], D, h, _ => s.flush h
  | p :: r, D, h, hw => by
    have h1 := h.write p.1 p.2 (hw p (List.mem_cons_self ..))
    unfold layD
    split
    · exact s.lay r h1 (fun q hq => hw q (List.mem_cons_of_mem _ hq))
    · exact h1
theorem Stays.do {Q : List UInt8 → Prop} {W : Nat × List UInt8 → Prop} (s : Stays Q W) (ims : List (Int × List UInt8)) (slot : Int) (sb : List UInt8) {D : DS} (h : Held Q W D) (hw : ∀ p ∈ ims, W (p.1.toNat, p.2)) (hs : W (slot.toNat, sb)) : Held Q W (doD ims slot sb D).1 := by
  have h1 := s.lay ims h hw
  unfold doD
  split
  · exact s.lay _ h1 (fun q hq => by simp at hq; rw [hq]; exact hs)
  · exact h1

/-- a lay without an error: all is durable -/
theorem layD_ok : ∀ (ims : List (Int × List UInt8)) (D : DS), (layD ims D).2 = 0 → (layD ims D).1.uf = [] ∧ (layD ims D).1.dur = (D.uf ++ ims.map (fun p => (p.1.toNat, p.2))).foldl (fun d w => carry d w.1 w.2 255) D.dur
  | [], D, h => by
    have h : D.operE = 0 := h
    show D.flush.uf = [] ∧ D.flush.dur = _
    rw [DS.flush, if_pos h]
    refine ⟨rfl, ?_⟩
    show carryTo D.uf D.dur D.uf.length = _
    rw [List.map_nil, List.append_nil]
    have : ∀ k, k ≤ D.uf.length → carryTo D.uf D.dur k = (D.uf.take k).foldl (fun d w => carry d w.1 w.2 255) D.dur := by
      intro k
      induction k with
      | zero => intro _; rfl
      | succ k ih =>
        intro hk
        rw [carryTo_succ _ _ _ (by omega), ih (by omega), List.take_succ_eq_append_getElem (by omega), List.foldl_append]
        rfl
    rw [this _ (Nat.le_refl _), List.take_length]
  | p :: r, D, h => by
    unfold layD at h ⊢
    split at h
    · rename_i he
      rw [if_pos he]
      obtain ⟨i1, i2⟩ := layD_ok r _ h
      refine ⟨i1, ?_⟩
      rw [i2]
      have hc : (D.has p.1 && decide (p.2.length = 4096)) = true ∧ D.operE = 0 := by
        unfold DS.writeE at he
        split at he
        · split at he
          · rename_i a b
            exact ⟨by rw [a, decide_eq_true b]; rfl, he⟩
          · omega
        · omega
      have e1 : (D.write p.1 p.2).uf = D.uf ++ [(p.1.toNat, p.2)] := by rw [DS.write, if_pos hc.1, if_pos hc.2]
      have e2 : (D.write p.1 p.2).dur = D.dur := by rw [DS.write, if_pos hc.1, if_pos hc.2]; exact D.oper_dur
      rw [e1, e2, List.map_cons, List.append_assoc]
      rfl
    · rename_i he
      exact absurd h he
theorem layD_quiet : ∀ (ims : List (Int × List UInt8)) (D : DS), D.quiet → (∀ p ∈ ims, D.has p.1 = true ∧ p.2.length = 4096) → (layD ims D).2 = 0 ∧ (layD ims D).1.quiet ∧ (layD ims D).1.nb = D.nb ∧ (layD ims D).1.n = D.n + ims.length
  | [], D, h, _ => by
    refine ⟨h.operE, ?_⟩
    show D.flush.quiet ∧ D.flush.nb = _ ∧ D.flush.n = _
    rw [h.flush]
    exact ⟨h, rfl, rfl⟩
  | p :: r, D, h, hp => by
    obtain ⟨h1, h2⟩ := hp p (List.mem_cons_self ..)
    have e0 : D.writeE p.1 p.2 = 0 := by unfold DS.writeE; rw [if_pos h1, if_pos h2]; exact h.operE
    have e1 : D.write p.1 p.2 = { D with uf := D.uf ++ [(p.1.toNat, p.2)], n := D.n + 1 } := by
      rw [DS.write, h1, decide_eq_true h2, h.operE, h.oper]; rfl
    unfold layD
    rw [if_pos e0]
    obtain ⟨i1, i2, i3, i4⟩ := layD_quiet r (D.write p.1 p.2) (by rw [e1]; exact h) (fun q hq => by rw [e1]; exact hp q (List.mem_cons_of_mem _ hq))
    refine ⟨i1, i2, by rw [i3, e1], ?_⟩
    rw [i4, e1, List.length_cons]
    show D.n + 1 + r.length = _
    omega
theorem doD_quiet (ims : List (Int × List UInt8)) (slot : Int) (sb : List UInt8) (D : DS) (h : D.quiet) (hi : ∀ p ∈ ims, D.has p.1 = true ∧ p.2.length = 4096) (hs : D.has slot = true ∧ sb.length = 4096) : (doD ims slot sb D).2 = 0 ∧ (doD ims slot sb D).1.quiet ∧ (doD ims slot sb D).1.nb = D.nb ∧ (doD ims slot sb D).1.n = D.n + ims.length + 1 := by
  obtain ⟨i1, i2, i3, i4⟩ := layD_quiet ims D h hi
  have := layD_quiet [(slot, sb)] (layD ims D).1 i2 (fun p hp => by simp at hp; subst hp; unfold DS.has; rw [i3]; exact hs)
  unfold doD
  rw [if_pos i1]
  obtain ⟨j1, j2, j3, j4⟩ := this
  exact ⟨j1, j2, j3.trans i3, by rw [j4, i4]; rfl⟩
theorem doD_ok (ims : List (Int × List UInt8)) (slot : Int) (sb : List UInt8) (D : DS) (h : (doD ims slot sb D).2 = 0) : (doD ims slot sb D).1.uf = [] ∧ (doD ims slot sb D).1.dur = carry ((D.uf ++ ims.map (fun p => (p.1.toNat, p.2))).foldl (fun d w => carry d w.1 w.2 255) D.dur) slot.toNat sb 255 := by
  unfold doD at h ⊢
  split at h
  · rename_i h1
    rw [if_pos h1]
    obtain ⟨i1, i2⟩ := layD_ok ims D h1
    obtain ⟨j1, j2⟩ := layD_ok _ _ h
    refine ⟨j1, ?_⟩
    rw [j2, i1, i2]
    rfl
  · rename_i h1
    exact absurd h h1

/-- blocks of what is laid in order -/
theorem fold_len (l : List (Nat × List UInt8)) (d : List UInt8) (hd : d.length = 64 * 4096) (hl : ∀ p ∈ l, p.1 < 64 ∧ p.2.length = 4096) : (l.foldl (fun d w => carry d w.1 w.2 255) d).length = 64 * 4096 := by
  induction l generalizing d with
  | nil => exact hd
  | cons p r ih =>
    obtain ⟨h1, h2⟩ := hl p (List.mem_cons_self ..)
    exact ih _ (by rw [carry_length _ _ _ _ (by rw [hd]; omega) h2]; exact hd) (fun q hq => hl q (List.mem_cons_of_mem _ hq))
theorem fold_other (l : List (Nat × List UInt8)) (d : List UInt8) (n : Nat) (hd : d.length = 64 * 4096) (hl : ∀ p ∈ l, p.1 < 64 ∧ p.2.length = 4096) (hn : ∀ p ∈ l, p.1 ≠ n) : blk (l.foldl (fun d w => carry d w.1 w.2 255) d) n = blk d n := by
  induction l generalizing d with
  | nil => rfl
  | cons p r ih =>
    obtain ⟨h1, h2⟩ := hl p (List.mem_cons_self ..)
    have hf : p.1 * 4096 + 4096 ≤ d.length := by rw [hd]; omega
    rw [List.foldl_cons, ih _ (by rw [carry_length _ _ _ _ hf h2]; exact hd) (fun q hq => hl q (List.mem_cons_of_mem _ hq)) (fun q hq => hn q (List.mem_cons_of_mem _ hq))]
    exact blk_carry_other _ _ _ _ _ hf h2 (fun e => hn p (List.mem_cons_self ..) e.symm)
theorem fold_one (l : List (Nat × List UInt8)) (d : List UInt8) (p : Nat × List UInt8) (hp : p ∈ l) (hd : d.length = 64 * 4096) (hl : ∀ p ∈ l, p.1 < 64 ∧ p.2.length = 4096) (hn : (l.map (·.1)).Nodup) : blk (l.foldl (fun d w => carry d w.1 w.2 255) d) p.1 = p.2 := by
  induction l generalizing d with
  | nil => cases hp
  | cons q r ih =>
    obtain ⟨h1, h2⟩ := hl q (List.mem_cons_self ..)
    have hf : q.1 * 4096 + 4096 ≤ d.length := by rw [hd]; omega
    have hd' : (carry d q.1 q.2 255).length = 64 * 4096 := by rw [carry_length _ _ _ _ hf h2]; exact hd
    rw [List.map_cons, List.nodup_cons] at hn
    rw [List.foldl_cons]
    rcases List.mem_cons.1 hp with rfl | hp
    · rw [fold_other r _ _ hd' (fun q hq => hl q (List.mem_cons_of_mem _ hq)) (fun q hq e => hn.1 (List.mem_map.2 ⟨q, hq, e⟩))]
      exact blk_carry_all _ _ _ hf h2
    · exact ih _ hp hd' (fun q hq => hl q (List.mem_cons_of_mem _ hq)) hn.2
end Go.Proofs.Ytdkaacjeogifdaa.H

/-
  A region that draws its order and holds loads beside calls that make memory: a load whose value is one in a whole class of frames and worlds may be taken first, if each step stays in the class.
-/
namespace Go.Proofs.Ytdkaacjeogifdaa.Dk

section
variable {P : Program} {ops : Array Oper} {Q : Exit → Act → World → Prop} {md : Region.Mode} {C : Act → World → Prop}

/-- Whatever order the draw gives: it ends in Q, and every step stays in the class. -/
def wpAnyC (P : Program) (md : Region.Mode) (ops : Array Oper) (Q : Exit → Act → World → Prop) (C : Act → World → Prop) : Nat → Array Bool → Act → World → Prop
  | 0, listed, a, w => Region.ready md ops listed = [] ∧ Q .normal a w
  | fuel + 1, listed, a, w => (Region.ready md ops listed = [] → Q .normal a w) ∧
    ∀ i ∈ Region.ready md ops listed, wpOp P ops Q i (fun a' w' => C a' w' ∧ wpAnyC P md ops Q C fuel (listed.setIfInBounds i true) a' w') a w

theorem wpAny_of_class : ∀ (fuel : Nat) (listed : Array Bool) (a : Act) (w : World), wpAnyC P md ops Q C fuel listed a w → wpAny P md ops Q fuel listed a w
  | 0, _, _, _, h => h
  | fuel + 1, _, _, _, h => ⟨h.1, fun i hi => wpOp_mono (fun a' w' h' => wpAny_of_class fuel _ a' w' h'.2) (h.2 i hi)⟩

/-- In all of the class the operation yields this one value, and leaves the world. -/
def Gives (P : Program) (ops : Array Oper) (C : Act → World → Prop) (o : Oper) (v : Value) : Prop :=
  ∀ a w, C a w → Region.wanted o (yielded ops a.tmps) = true ∧ (execOp a.eval o).run P w = .ok (.value v) w

theorem Gives.wpOp {i : Nat} {o : Oper} {v : Value} {a : Act} {w : World} (hi : ops[i]? = some o) (hg : Gives P ops C o v) (hc : C a w) {K : Act → World → Prop} (h : K (a.put o.dst v) w) : wpOp P ops Q i K a w := by
  obtain ⟨h1, h2⟩ := hg a w hc
  unfold Go.wpOp
  simp only [hi, h1, if_true, Oper.wp, h2, Oper.upon]
  exact .inl h

/-- the stand-in: the same slot, a constant -/
def standIn (o : Oper) (v : Value) : Oper := { o with op := .move (.const v), guard := none }
theorem standIn_yields (o : Oper) (v : Value) (a : Act) : Yields P ops (standIn o v) v a := by
  refine .inl ⟨rfl, fun w => ?_⟩
  rfl
theorem standIn_apart {o y : Oper} {v : Value} (h : o.apart ops y = true) : (standIn o v).apart ops y = true := by
  unfold Oper.apart at h ⊢
  simp only [Bool.and_eq_true] at h ⊢
  refine ⟨h.1, ?_⟩
  have e : (standIn o v).looksAt ops = [] := rfl
  rw [e]
  cases y.dst <;> rfl

theorem wpAnyC_first {i : Nat} {oi : Oper} {v : Value} (hi : ops[i]? = some oi) (hs : Region.noSelect ops = true)
    (hQ : ∀ c a w, Q (.panic c) (a.put oi.dst v) w → Q (.panic c) a w) (hg : Gives P ops C oi v) (hdn : ∀ a w, C (a.put oi.dst v) w → C a w) (hup : ∀ a w, C a w → C (a.put oi.dst v) w) :
    ∀ (fuel : Nat) (listed : Array Bool) (a : Act) (w : World),
      (∀ j oj, ops[j]? = some oj → j ≠ i → listed.getD j true = false → (∀ e ∈ oj.after, Region.binds md e = true → e.on ≠ i) → oi.apart ops oj = true) →
      i ∈ Region.ready md ops listed → C a w →
      wpAnyC P md ops Q C fuel (listed.setIfInBounds i true) (a.put oi.dst v) w → wpAnyC P md ops Q C (fuel + 1) listed a w
  | fuel, listed, a, w, hfree, hr, hc, H => by
    refine ⟨fun h => (by rw [h] at hr; cases hr), fun j hj => ?_⟩
    by_cases hji : j = i
    · subst hji
      exact hg.wpOp hi hc ⟨hup a w hc, H⟩
    · have hm := ready_mono hj hji
      cases fuel with
      | zero =>
        rw [H.1] at hm
        cases hm
      | succ fuel =>
        obtain ⟨hjun, oj, hoj, hall⟩ := mem_ready.1 hj
        have hnot : ∀ e ∈ oj.after, Region.binds md e = true → e.on ≠ i := fun e he hb heq => by
          have h1 := hall e he hb
          have h0 := (mem_ready.1 hr).1
          rw [heq] at h1
          rcases Nat.lt_or_ge i listed.size with h' | h'
          · simp [h'] at h0 h1; rw [h0] at h1; cases h1
          · simp [Array.getElem?_eq_none h'] at h1
        have h2 := wpOp_put (oi := standIn oi v) (v := v) hoj (standIn_apart (hfree j oj hoj hji hjun hnot)) (fun cs b h => by cases h) (fun cs b => Region.noSelect_spec hs j oj cs b hoj) hQ (standIn_yields oi v a) (H.2 j hm)
        have hfree' : ∀ k ok, ops[k]? = some ok → k ≠ i → (listed.setIfInBounds j true).getD k true = false →
            (∀ e ∈ ok.after, Region.binds md e = true → e.on ≠ i) → oi.apart ops ok = true := fun k ok hk hki hun hno => by
          refine hfree k ok hk hki ?_ hno
          by_cases hjk : j = k
          · subst hjk; exact hjun
          · rw [getD_set_ne true hjk] at hun; exact hun
        refine wpOp_mono (fun a' w' h3 => ?_) h2
        have hc' := hdn a' w' h3.2.1
        refine ⟨hc', wpAnyC_first hi hs hQ hg hdn hup fuel (listed.setIfInBounds j true) a' w' hfree' (ready_mono hr (Ne.symm hji)) hc' ?_⟩
        rw [Array.setIfInBounds_comm _ _ hji]
        exact h3.2.2

/-- A load is taken first. -/
theorem wpAnyC_take {i : Nat} {oi : Oper} {v : Value} {fuel : Nat} {listed : Array Bool} {a : Act} {w : World} (hi : ops[i]? = some oi) (hs : Region.noSelect ops = true)
    (hf : Region.free md ops listed i = true) (hr : (Region.ready md ops listed).contains i = true)
    (hQ : ∀ c a w, Q (.panic c) (a.put oi.dst v) w → Q (.panic c) a w) (hg : Gives P ops C oi v) (hdn : ∀ a w, C (a.put oi.dst v) w → C a w) (hup : ∀ a w, C a w → C (a.put oi.dst v) w)
    (hc : C a w) (h : wpAnyC P md ops Q C fuel (listed.setIfInBounds i true) (a.put oi.dst v) w) : wpAnyC P md ops Q C (fuel + 1) listed a w :=
  wpAnyC_first hi hs hQ hg hdn hup fuel listed a w (Region.free_spec hi hf) (by simpa using hr) hc h

/-- One operation alone may come up. -/
theorem wpAnyC_one {i : Nat} {o : Oper} {fuel : Nat} {listed : Array Bool} {a : Act} {w : World} (hr : Region.ready md ops listed = [i]) (ho : ops[i]? = some o)
    (h : ∀ K' : Act → World → Prop, (∀ a w, (C a w ∧ wpAnyC P md ops Q C fuel (listed.setIfInBounds i true) a w) → K' a w) → if Region.wanted o (yielded ops a.tmps) = true then Oper.wp P o a w K' Q else K' (a.put o.dst undef) w) :
    wpAnyC P md ops Q C (fuel + 1) listed a w := by
  refine ⟨fun h0 => (by rw [hr] at h0; cases h0), fun j hj => ?_⟩
  rw [hr] at hj
  obtain rfl : j = i := by simpa using hj
  exact wpOp_step ho h

theorem wpAnyC_done {listed : Array Bool} {a : Act} {w : World} (hr : Region.ready md ops listed = []) (h : Q .normal a w) : ∀ fuel, wpAnyC P md ops Q C fuel listed a w
  | 0 => ⟨hr, h⟩
  | _ + 1 => ⟨fun _ => h, by rw [hr]; simp⟩
/-- Two operations may come up. -/
theorem wpAnyC_two {i j : Nat} {oi oj : Oper} {fuel : Nat} {listed : Array Bool} {a : Act} {w : World} (hr : Region.ready md ops listed = [i, j]) (hi : ops[i]? = some oi) (hj : ops[j]? = some oj)
    (h1 : ∀ K' : Act → World → Prop, (∀ a w, (C a w ∧ wpAnyC P md ops Q C fuel (listed.setIfInBounds i true) a w) → K' a w) → if Region.wanted oi (yielded ops a.tmps) = true then Oper.wp P oi a w K' Q else K' (a.put oi.dst undef) w)
    (h2 : ∀ K' : Act → World → Prop, (∀ a w, (C a w ∧ wpAnyC P md ops Q C fuel (listed.setIfInBounds j true) a w) → K' a w) → if Region.wanted oj (yielded ops a.tmps) = true then Oper.wp P oj a w K' Q else K' (a.put oj.dst undef) w) :
    wpAnyC P md ops Q C (fuel + 1) listed a w := by
  refine ⟨fun h0 => (by rw [hr] at h0; cases h0), fun k hk => ?_⟩
  rw [hr] at hk
  rcases List.mem_cons.1 hk with rfl | hk
  · exact wpOp_step hi h1
  · obtain rfl : k = j := by simpa using hk
    exact wpOp_step hj h2
end

section
variable {P : Program} {ops : Array Oper} {Q : Exit → Act → World → Prop} {md : Region.Mode}
theorem wpAnyC_mono {C C' : Act → World → Prop} (hC : ∀ a w, C' a w → C a w) : ∀ (fuel : Nat) (listed : Array Bool) (a : Act) (w : World), wpAnyC P md ops Q C' fuel listed a w → wpAnyC P md ops Q C fuel listed a w
  | 0, _, _, _, h => h
  | fuel + 1, _, _, _, h => ⟨h.1, fun i hi => wpOp_mono (fun a' w' h' => ⟨hC _ _ h'.1, wpAnyC_mono hC fuel _ a' w' h'.2⟩) (h.2 i hi)⟩
end

/-- The class: these slots hold these values, these cells hold these. -/
def SlotsCells (ps : List (Nat × Value)) (qs : List (Addr × Value)) (a : Act) (u : World) : Prop := (∀ p ∈ ps, a.eval (.tmp p.1) = p.2) ∧ ∀ q ∈ qs, u.cell? q.1 = some q.2
theorem SlotsCells.put {ps : List (Nat × Value)} {qs : List (Addr × Value)} {a : Act} {u : World} (s : Nat) (v : Value) (hs : (ps.all fun p => p.1 != s) = true) :
    SlotsCells ps qs (a.put (some s) v) u ↔ SlotsCells ps qs a u := by
  have e : ∀ p ∈ ps, (a.put (some s) v).eval (.tmp p.1) = a.eval (.tmp p.1) := fun p hp => Act.eval_put (fun d hd => by
    have h1 := (List.all_eq_true.1 hs) p hp
    simp at h1 hd
    subst hd
    intro h
    injection h with h
    exact h1 h)
  constructor
  · rintro ⟨h, hb⟩
    exact ⟨fun p hp => (e p hp).symm.trans (h p hp), hb⟩
  · rintro ⟨h, hb⟩
    exact ⟨fun p hp => (e p hp).trans (h p hp), hb⟩
theorem SlotsCells.load {ps : List (Nat × Value)} {qs : List (Addr × Value)} {a : Act} {u : World} (h : SlotsCells ps qs a u) {s : Nat} {p : Addr} {v : Value} (hp : (s, Value.pointer (some p)) ∈ ps) (hq : (p, v) ∈ qs) :
    a.tmps[s]?.getD undef = .pointer (some p) ∧ u.cell? p = some v := ⟨by have := h.1 _ hp; simpa [Act.eval] using this, h.2 _ hq⟩

/-- a value of the class -/
theorem SlotsCells.val {ps : List (Nat × Value)} {qs : List (Addr × Value)} {a : Act} {u : World} (h : SlotsCells ps qs a u) {s : Nat} {v : Value} (hp : (s, v) ∈ ps) : a.tmps[s]?.getD undef = v := by have := h.1 _ hp; simpa [Act.eval] using this
end Go.Proofs.Ytdkaacjeogifdaa.Dk

/-
  The power of a disk: fuses, operations, Arm, Fail.
-/
namespace Go.Proofs.Ytdkaacjeogifdaa.Dk
open Go.RowKit

theorem set_same {cs : Array Value} {j : Nat} {v : Value} (h : cs[j]? = some v) : cs.setIfInBounds j v = cs := by
  obtain ⟨hj, rfl⟩ := Array.getElem?_eq_some_iff.1 h
  apply Array.toList_inj.1
  rw [Array.toList_setIfInBounds]
  apply List.ext_getElem?
  intro i
  by_cases e : j = i
  · subst e; simp [hj]
  · rw [List.getElem?_set_ne e]

theorem stops_at (g j : Nat) (f : Fuse) (cs : Array Value) (w : World) (hb : Box w g cs 87) (h0 : cs[j]? = some (.bool f.set)) (h1 : cs[j + 1]? = some (.int .i64 (f.left : Int))) (hf : f.left < 9223372036854775808) :
    Calls Try.prog 64 #[.pointer (some ⟨g, j, none⟩)] w fun e w' => e = .returned (.bool f.stops) ∧ Box w' g ((cs.setIfInBounds j (.bool f.then.set)).setIfInBounds (j + 1) (.int .i64 (f.then.left : Int))) 87 ∧ w.grownBy w' (some g) := by
  have c0 := hb.cell j
  have c1 := hb.cell (j + 1)
  rw [h0] at c0
  rw [h1] at c1
  have f0 := hb.frozen j
  have f1 := hb.frozen (j + 1)
  obtain ⟨s, n⟩ := f
  cases s with
  | false =>
    have e : ((cs.setIfInBounds j (.bool (Fuse.then ⟨false, n⟩).set)).setIfInBounds (j + 1) (.int .i64 ((Fuse.then ⟨false, n⟩).left : Int))) = cs := by
      show (cs.setIfInBounds j (.bool false)).setIfInBounds (j + 1) (.int .i64 (n : Int)) = cs
      rw [set_same h0, set_same h1]
    rw [e]
    go_enter Try.func64, Try.ntmps64
    go_wp2
    go_ret
    exact ⟨rfl, hb, World.grownBy.refl _ _⟩
  | true =>
    by_cases hn : 0 < n
    · have e1 : Fuse.then ⟨true, n⟩ = ⟨true, n - 1⟩ := by simp [Fuse.then, hn]
      have e2 : Fuse.stops ⟨true, n⟩ = false := by simp [Fuse.stops]; omega
      have e3 : ((n - 1 : Nat) : Int) = (n : Int) - 1 := by omega
      rw [e1, e2]
      have e4 : cs.setIfInBounds j (.bool true) = cs := set_same h0
      have hs := hb.store (j + 1) (.int .i64 ((n : Int) - 1))
      have hg := grown_store w g (j + 1) (.int .i64 ((n : Int) - 1))
      have hn' : (0 : Int) < n := by omega
      dsimp only at c1 hf
      clear h0 h1 hb e1 e2
      have E3 : Hid _ := e3
      have E4 : Hid _ := e4
      clear e3 e4
      go_enter Try.func64, Try.ntmps64
      go_wp2
      go_ret
      refine ⟨rfl, ?_, hg⟩
      show Box _ g ((cs.setIfInBounds j (.bool true)).setIfInBounds (j + 1) (.int .i64 ((n - 1 : Nat) : Int))) 87
      rw [E3.out, E4.out]
      exact hs
    · obtain rfl : n = 0 := by omega
      have hs := (hb.store j (.bool false)).store (j + 1) (.int .i64 0)
      have hg := grown_trans (grown_store w g j (.bool false)) (grown_store _ g (j + 1) (.int .i64 0))
      clear h0 h1 hb
      go_enter Try.func64, Try.ntmps64
      go_wp2
      go_ret
      exact ⟨rfl, hs, hg⟩

/-- Only the disk's own cells have turned, and of them only its numbers. -/
theorem Lies.turned {w w' : World} {g : Nat} {D D' : DS} {F : Nat → Prop} {gd cd : Nat} {vu : Value} {ps : List (Nat × Nat × Nat)} (h : Lies w g D F gd cd vu ps) (hg : w.grownBy w' (some g))
    (hb : Box w' g (diskC g (.slice (some ⟨gd, 0, none⟩) (D'.nb * 4096) cd) vu D') 87) (hd : D'.dur = D.dur) (hu : D'.uf = D.uf) (ok : D'.Ok) : Lies w' g D' F gd cd vu ps := by
  obtain ⟨cur, hcur, hrest⟩ := h.dur
  have ngd : gd ≠ g := hcur.ne h.box (by decide)
  refine ⟨hb, ?_, ?_, ?_, ?_, h.fg, h.fd, h.fu, fun i hi => Nat.lt_of_lt_of_le (h.flt i hi) hg.size, ok⟩
  · rw [hd]
    exact h.dur.same (hg.block gd hcur.lt (by simpa using ngd))
  · rw [hu]
    refine ⟨h.row.1, ?_⟩
    rcases h.row.2 with h1 | ⟨g', cap, cur', rfl, hb', hg', r⟩
    · exact .inl h1
    · have hne : g' ≠ g := Box.ne (w := w) (t := 93) hg' h.box (by decide)
      exact .inr ⟨g', cap, cur', rfl, hb', (hg.block g' (Array.getElem?_eq_some_iff.1 hg').1 (by simpa using hne)).trans hg', r⟩
  · rw [hu]; exact h.len
  · intro k h1 h2
    have h2' : k < D.uf.length := by rw [← hu]; exact h2
    obtain ⟨a, b, c, d⟩ := h.each k h1 h2'
    have e : D'.uf[k] = D.uf[k] := by simp only [hu]
    rw [e]
    obtain ⟨cur2, hb2, r2⟩ := b
    have hne : ps[k].2.1 ≠ g := hb2.ne h.box (by decide)
    exact ⟨a, RowB.same ⟨cur2, hb2, r2⟩ (hg.block _ hb2.lt (by simpa using hne)), c, d⟩

set_option maxRecDepth 100000 in
theorem operation_at {g : Nat} {w : World} {D : DS} {F : Nat → Prop} {gd cd : Nat} {vu : Value} {ps : List (Nat × Nat × Nat)} (h : Lies w g D F gd cd vu ps) :
    Calls Try.prog 45 #[.pointer (some ⟨g, 4, none⟩)] w fun e w' => e = .returned (.int .i64 (D.operE : Int)) ∧ Lies w' g D.oper F gd cd vu ps ∧ w.grownBy w' (some g) := by
  obtain ⟨_, _, _, _, c4, _⟩ := box_cells h.box
  cases hgone : D.gone with
  | true =>
    have e1 : D.operE = 6 := by simp [DS.operE, hgone]
    have e2 : D.oper = D := by simp [DS.oper, hgone]
    rw [e1, e2]
    rw [hgone] at c4
    go_enter Try.func45, Try.ntmps45
    go_wp2
    go_ret
    exact ⟨rfl, h, World.grownBy.refl _ _⟩
  | false =>
    rw [hgone] at c4
    have e0 : D.oper = { D with gone := D.arm.stops, arm := D.arm.then, fail := D.fail.then } := by simp [DS.oper, hgone]
    have e1 : D.operE = if D.arm.stops then 6 else if D.fail.stops then 4 else 0 := by simp [DS.operE, hgone]
    have hok := h.ok.oper
    rw [e0] at hok
    obtain ⟨E, hE⟩ : ∃ E, E = D.operE := ⟨_, rfl⟩
    obtain ⟨O, hO⟩ : ∃ O, O = D.oper := ⟨_, rfl⟩
    rw [← hE, ← hO]
    rw [e1] at hE
    rw [e0] at hO
    have HE : Hid _ := hE
    have HO : Hid _ := hO
    clear e0 e1 hE hO
    go_enter Try.func45, Try.ntmps45
    go_wp2_with fail
    refine wp_region_any (by kernel_rfl) ?_
    change wpAny _ _ _ _ _ _ _ (World.drew _)
    refine wpAny_take (i := 0) (v := ?_) rfl (by kernel_rfl) (by kernel_rfl) (by kernel_rfl) (fun _ _ _ h => h) (Or.inl ⟨by rfl, ?_⟩) ?_
    rotate_left
    · intro w
      go_simp
      with_reducible rfl
    refine wpAny_take (i := 1) (v := ?_) rfl (by kernel_rfl) (by kernel_rfl) (by kernel_rfl) (fun _ _ _ h => h) (Or.inl ⟨by rfl, ?_⟩) ?_
    rotate_left
    · intro w
      go_simp
      with_reducible rfl
    refine wpAny_take (i := 2) (v := ?_) rfl (by kernel_rfl) (by kernel_rfl) (by kernel_rfl) (fun _ _ _ h => h) (Or.inl ⟨by rfl, ?_⟩) ?_
    rotate_left
    · intro w
      go_simp
      with_reducible rfl
    refine wpAny_take (i := 4) (v := ?_) rfl (by kernel_rfl) (by kernel_rfl) (by kernel_rfl) (fun _ _ _ h => h) (Or.inl ⟨by rfl, ?_⟩) ?_
    rotate_left
    · intro w
      go_simp
      with_reducible rfl
    refine wpAny_take (i := 5) (v := ?_) rfl (by kernel_rfl) (by kernel_rfl) (by kernel_rfl) (fun _ _ _ h => h) (Or.inl ⟨by rfl, ?_⟩) ?_
    rotate_left
    · intro w
      go_simp
      with_reducible rfl
    refine wpAny_take (i := 6) (v := ?_) rfl (by kernel_rfl) (by kernel_rfl) (by kernel_rfl) (fun _ _ _ h => h) (Or.inl ⟨by rfl, ?_⟩) ?_
    rotate_left
    · intro w
      go_simp
      with_reducible rfl
    simp only [Act.put, List.setIfInBounds_toArray, List.set_cons_zero, List.set_cons_succ, List.getElem_toArray, List.getElem_cons_zero, List.getElem_cons_succ]
    refine wpAny_of_class (C := fun _ _ => True) _ _ _ _ ?_
    refine wpAnyC_one (i := 3) (by kernel_rfl) rfl (fun K hK => ?_)
    go_simp
    have hb0 : Box w.drew g (diskC g (.slice (some ⟨gd, 0, none⟩) (D.nb * 4096) cd) vu D) 87 := h.box
    refine (stops_at g 5 D.arm _ w.drew hb0 rfl rfl h.ok.arm).mono ?_
    rintro e w1 ⟨rfl, b1, g1⟩
    refine hK _ _ ⟨trivial, ?_⟩
    clear hK K
    refine wpAnyC_one (i := 7) (by kernel_rfl) rfl (fun K hK => ?_)
    go_simp
    refine (stops_at g 7 D.fail _ w1 b1 rfl rfl h.ok.fail).mono ?_
    rintro e w2 ⟨rfl, b2, g2⟩
    refine hK _ _ ⟨trivial, ?_⟩
    clear hK K
    have gr : w.grownBy w2 (some g) := grown_trans ⟨g1.os, g1.tape, g1.output, g1.size, g1.block⟩ g2
    have bx : Box w2 g #[.pointer (some ⟨g, 0, none⟩), .slice (some ⟨gd, 0, none⟩) (D.nb * 4096) cd, vu, .int .i64 (D.n : Int), .bool D.gone, .bool D.arm.then.set, .int .i64 (D.arm.then.left : Int), .bool D.fail.then.set, .int .i64 (D.fail.then.left : Int)] 87 := b2
    clear b1 b2 g1 g2 hb0 c4
    refine wpAnyC_mono (C' := SlotsCells [(12, .bool D.arm.stops), (16, .bool D.fail.stops)] []) (fun _ _ _ => trivial) _ _ _ _ ?_
    refine wpAnyC_take (i := 8) (v := .bool D.arm.stops) rfl (by kernel_rfl) (by kernel_rfl) (by kernel_rfl) (fun _ _ _ h => h) ?_ (fun fr u h => (SlotsCells.put 3 _ (by rfl)).1 h) (fun fr u h => (SlotsCells.put 3 _ (by rfl)).2 h) ?_ ?_
    · intro fr u hh
      have h1 := hh.val (s := 12) (v := .bool D.arm.stops) (by simp)
      exact ⟨rfl, by simp [execOp, h1, go_sem]⟩
    · refine ⟨fun p hp => ?_, fun q hq => by simp at hq⟩
      simp at hp
      rcases hp with rfl | rfl <;> rfl
    simp only [Act.put, List.setIfInBounds_toArray, List.set_cons_zero, List.set_cons_succ, List.getElem_toArray, List.getElem_cons_zero, List.getElem_cons_succ]
    refine wpAnyC_one (i := 9) (by kernel_rfl) rfl (fun K hK => ?_)
    go_simp
    refine hK _ _ ⟨?_, ?_⟩
    · refine ⟨fun p hp => ?_, fun q hq => by simp at hq⟩
      simp at hp
      rcases hp with rfl | rfl <;> rfl
    clear hK K
    refine wpAnyC_done (by kernel_rfl) ?_ _
    have f4 := bx.frozen 4
    have c4 := bx.cell 4
    simp only [List.getElem?_toArray, List.getElem?_cons_zero, List.getElem?_cons_succ] at c4
    cases ha : D.arm.stops with
    | true =>
      have b3 := bx.store 4 (.bool true)
      have g3 := grown_trans gr (grown_store w2 g 4 (.bool true))
      have hl := h.turned (D' := { D with gone := true, arm := D.arm.then, fail := D.fail.then }) g3 b3 rfl rfl (by rw [ha] at hok; exact hok)
      clear h hok bx gr b3
      have HO' : Hid (O = { D with gone := true, arm := D.arm.then, fail := D.fail.then }) := by have := HO.out; rw [ha] at this; exact this
      have HE' : Hid (E = 6) := by have := HE.out; rw [ha] at this; exact this
      clear HO HE
      go_wp2
      go_ret
      rw [HO'.out, HE'.out]
      exact ⟨rfl, hl, g3⟩
    | false =>
      have b3 : Box w2 g (diskC g (.slice (some ⟨gd, 0, none⟩) (D.nb * 4096) cd) vu { D with gone := false, arm := D.arm.then, fail := D.fail.then }) 87 := by rw [← hgone]; exact bx
      have hl := h.turned (D' := { D with gone := false, arm := D.arm.then, fail := D.fail.then }) gr b3 rfl rfl (by rw [ha] at hok; exact hok)
      clear h hok bx b3
      have HO' : Hid (O = { D with gone := false, arm := D.arm.then, fail := D.fail.then }) := by have := HO.out; rw [ha] at this; exact this
      clear HO
      cases hf : D.fail.stops with
      | true =>
        have HE' : Hid (E = 4) := by have := HE.out; rw [ha, hf] at this; exact this
        clear HE
        go_wp2
        go_ret
        rw [HO'.out, HE'.out]
        exact ⟨rfl, hl, gr⟩
      | false =>
        have HE' : Hid (E = 0) := by have := HE.out; rw [ha, hf] at this; exact this
        clear HE
        go_wp2
        go_ret
        rw [HO'.out, HE'.out]
        exact ⟨rfl, hl, gr⟩

def armE (n : Int) : Nat := if n < 0 then 2 else 0
theorem mayArm_at {g : Nat} {w : World} {D : DS} {F : Nat → Prop} {gd cd : Nat} {vu : Value} {ps : List (Nat × Nat × Nat)} (h : Lies w g D F gd cd vu ps) (n : Int) :
    Calls Try.prog 47 #[.pointer (some ⟨g, 0, none⟩), .int .i64 n] w fun e w' => e = .returned (.int .i64 (armE n : Int)) ∧ w = w' := by
  have c := isMade_at h
  by_cases hn : n < 0
  · have e : armE n = 2 := by simp [armE, hn]
    rw [e]
    go_enter Try.func47, Try.ntmps47
    go_wp2_with fail
    refine c.mono ?_
    rintro e w' ⟨rfl, rfl⟩
    go_wp2
    go_ret
    exact ⟨rfl, rfl⟩
  · have e : armE n = 0 := by simp [armE, hn]
    rw [e]
    go_enter Try.func47, Try.ntmps47
    go_wp2_with fail
    refine c.mono ?_
    rintro e w' ⟨rfl, rfl⟩
    go_wp2
    go_ret
    exact ⟨rfl, rfl⟩

def DS.armed (D : DS) (n : Int) : DS := if n < 0 then D else { D with arm := ⟨true, n.toNat⟩ }
def DS.failing (D : DS) (n : Int) : DS := if n < 0 then D else { D with fail := ⟨true, n.toNat⟩ }

theorem arm_at {g : Nat} {w : World} {D : DS} {F : Nat → Prop} (hd : IsDisk w g D F) (n : Int) (hn : n ≤ 9223372036854775807) :
    Calls Try.prog 24 #[.pointer (some ⟨g, 0, none⟩), .int .i64 n] w fun e w' => e = .returned (.int .i64 (armE n : Int)) ∧ IsDisk w' g (D.armed n) F ∧ Upd F w w' := by
  obtain ⟨gd, cd, vu, ps, h⟩ := hd
  have c := mayArm_at h n
  by_cases h0 : n < 0
  · have e : armE n = 2 := by simp [armE, h0]
    have e2 : D.armed n = D := by simp [DS.armed, h0]
    rw [e2, e]
    rw [e] at c
    go_enter Try.func24, Try.ntmps24
    go_wp2_with fail
    refine c.mono ?_
    rintro e w' ⟨rfl, rfl⟩
    go_wp2
    go_ret
    exact ⟨rfl, ⟨gd, cd, vu, ps, h⟩, Upd.refl _ _⟩
  · have e : armE n = 0 := by simp [armE, h0]
    have e2 : D.armed n = { D with arm := ⟨true, n.toNat⟩ } := by simp [DS.armed, h0]
    rw [e2, e]
    rw [e] at c
    obtain ⟨m, rfl⟩ := Int.eq_ofNat_of_zero_le (show 0 ≤ n by omega)
    obtain ⟨_, _, _, _, _, c5, c6, _⟩ := box_cells h.box
    have f5 := h.box.frozen 5
    have f6 := h.box.frozen 6
    have b3 := (h.box.store 5 (.bool true)).store 6 (.int .i64 (m : Int))
    have g3 := grown_trans (grown_store w g 5 (.bool true)) (grown_store _ g 6 (.int .i64 (m : Int)))
    have hl := h.turned (D' := { D with arm := ⟨true, m⟩ }) g3 b3 rfl rfl ⟨h.ok.len, h.ok.lo, h.ok.hi, h.ok.each, by show m < _; omega, h.ok.fail⟩
    have hu : Upd F w _ := (Upd.refl F w).grown g3 (fun k e => by cases e; exact .inl h.fg)
    clear b3 g3 e2
    go_enter Try.func24, Try.ntmps24
    go_wp2_with fail
    refine c.mono ?_
    rintro e w' ⟨rfl, rfl⟩
    go_wp2
    go_ret
    exact ⟨rfl, ⟨gd, cd, vu, ps, hl⟩, hu⟩

end Go.Proofs.Ytdkaacjeogifdaa.Dk

/-
  Disks that are made: Clone, holding, New, Load.
-/
namespace Go.Proofs.Ytdkaacjeogifdaa.Dk
open Go.RowKit

theorem eqlSlice (ad : Addr) (n cap : Nat) (u : World) : (binOp .eql 26 (.slice (some ad) n cap) (.slice none 0 0)).run Try.prog u = .ok (.bool false) u := by
  have h : ∀ d : Nat, (Op.equalIn (d + 1) 26 (.slice (some ad) n cap) (.slice none 0 0)).run Try.prog u = .ok false u := fun d => by
    simp [Op.equalIn, run_underlying Try.underlying26]
  simp only [binOp]
  simp [Op.equal, Op.maxDepth, h 9999]

theorem clone_at (cap n : Nat) (ad : Addr) (xs : List UInt8) (w : World) (hl : xs.length = n) (h0 : 0 < n) (hn : n ≤ 100000000) (hr : Rd w (some ad) xs) :
    Calls Try.prog 43 #[.slice (some ad) n cap] w fun e w' => ∃ g cap', e = .returned (.slice (some ⟨g, 0, none⟩) n cap') ∧ w.heap.size ≤ g ∧ RowB w' g cap' xs ∧ Below w.heap.size w w' := by
  obtain ⟨i0, hi, hz0, hz1, hz2⟩ := info_parts info5
  have hb0 : Below w.heap.size w (w.alloc (.cells #[] 5)) := (Below.refl _ _).alloc (Nat.le_refl _) _
  have hr1 := hr.below hb0 (Nat.le_refl _)
  have ho : (w.alloc (.cells #[] 5)).ownsRow w.heap.size 5 1 (.slice (some ⟨w.heap.size, 0, none⟩) 0 0) 0 [] := World.ownsRow_made w #[] 0 (Nat.le_refl _) (by simp [maxLen]) rfl
  have Hl : Hid _ := hl
  clear hl
  have z0 := hb0.size
  have he := eqlSlice ad n cap
  go_enter Try.func43, Try.ntmps43
  go_wp2_with (at_builtin; refine wpList_append_bytes rfl _ _ rfl w.heap.size (.slice (some ⟨w.heap.size, 0, none⟩) 0 0) 0 [] rfl ho (some ad) n cap xs rfl Hl.out hr1 (by simp) (by omega) z0 ?_)
  intro v1 w1 o1 g1
  obtain ⟨g, cap', rfl, hg, hrow⟩ := RowB.owns o1 h0
  have B1 : Below w.heap.size w w1 := hb0.grown g1 z0 (fun k hk => by simp [Value.ownBlock] at hk; omega)
  clear o1 g1 ho hr1 hb0
  go_wp2
  go_ret
  exact ⟨g, cap', rfl, hg, hrow, B1⟩

theorem holding_at (gd cd nb : Nat) (d : List UInt8) (w : World) (hrow : RowB w gd cd d) (hl : d.length = nb * 4096) (h1 : 1 ≤ nb) (h2 : nb ≤ 512) :
    Calls Try.prog 36 #[.slice (some ⟨gd, 0, none⟩) (nb * 4096) cd] w fun e w' => e = .returned (.pointer (some ⟨w.heap.size, 0, none⟩)) ∧ IsDisk w' w.heap.size (DS.new nb d) (fun i => i = w.heap.size ∨ i = gd) ∧ Below w.heap.size w w' := by
  have b1 := Box.new w (diskC w.heap.size (.slice (some ⟨gd, 0, none⟩) (nb * 4096) cd) (.slice none 0 0) (DS.new nb d)) 87
  have B1 := (Below.refl w.heap.size w).alloc (Nat.le_refl _) (.cells (diskC w.heap.size (.slice (some ⟨gd, 0, none⟩) (nb * 4096) cd) (.slice none 0 0) (DS.new nb d)) 87)
  have hlt := hrow.lt
  have hs := B1.size
  have hlies : Lies _ w.heap.size (DS.new nb d) (fun i => i = w.heap.size ∨ i = gd) gd cd (.slice none 0 0) [] :=
    { box := b1, dur := hrow.same (B1.block gd hlt), row := World.ownsRow_nil _ _ _ _, len := rfl, each := fun k h => by simp at h, fg := .inl rfl, fd := .inr rfl, fu := fun k h => by simp [Value.ownBlock] at h,
      flt := fun i hi => by
        rcases hi with rfl | rfl
        · exact b1.lt
        · omega
      ok := DS.Ok.new hl h1 h2 }
  clear b1 hrow hl
  go_enter Try.func36, Try.ntmps36
  go_wp2
  go_ret
  exact ⟨rfl, ⟨_, _, _, _, hlies⟩, B1⟩

theorem made_zeros (n : Nat) : (madeCells #[Value.int .u8 0] n) = (bcs (List.replicate n 0)).toArray := made_zero n

/-- noughts -/
def nought (n : Nat) : List UInt8 := List.replicate n 0
theorem nought_length (n : Nat) : (nought n).length = n := by simp [nought]

theorem make_run (n : Nat) (hn : n ≤ 281474976710656) (u : World) : (Instr.makeSlice 26 (.int .i64 (n : Int)) (.int .i64 (n : Int))).run Try.prog u =
    .ok (.slice (some ⟨u.heap.size, 0, none⟩) n n) (u.alloc (.cells (bcs (nought n)).toArray 5)) := by
  obtain ⟨i0, hi, hz0, hz1, hz2⟩ := info_parts info5
  have h := run_make (P := Try.prog) u 26 5 i0 (.int .u8 0) Try.underlying26 hi hz0 .i64 .i64 (n : Int) (n : Int) (by omega) (Int.le_refl _) (by rw [hz2]; omega) (by omega)
  have e : ((n : Int)).toNat = n := by omega
  rw [e, hz1, Nat.mul_one] at h
  have e2 : madeCells #[.int .u8 0] n = (bcs (nought n)).toArray := made_zero n
  rw [← e2]
  exact h

/-- a disk in new blocks -/
def NewDisk (w w' : World) (g : Nat) (D : DS) : Prop := ∃ F : Nat → Prop, IsDisk w' g D F ∧ (∀ i, F i → w.heap.size ≤ i) ∧ Below w.heap.size w w'

theorem new_at (nb : Nat) (w : World) (h1 : 1 ≤ nb) (h2 : nb ≤ 512) :
    Calls Try.prog 11 #[.int .i64 (nb : Int)] w fun e w' => ∃ g, e = .returned (.tuple #[.pointer (some ⟨g, 0, none⟩), .int .i64 0]) ∧ NewDisk w w' g (DS.new nb (nought (nb * 4096))) := by
  have c := rightSize_at nb w
  have hc : (decide ((1 : Int) ≤ (nb : Int)) && decide ((nb : Int) ≤ 512)) = true := by simp; omega
  rw [hc] at c
  have hm := make_run (nb * 4096) (by omega)
  have em : ((nb * 4096 : Nat) : Int) = (nb : Int) * 4096 := by omega
  rw [em] at hm
  clear em
  have own := own_lit w (nought (nb * 4096))
  have B1 := (Below.refl w.heap.size w).alloc (Nat.le_refl _) (.cells (bcs (nought (nb * 4096))).toArray 5)
  have rw0 := RowB.own own (by rw [nought_length]; unfold maxLen; omega)
  rw [nought_length] at rw0
  have hlen : (nought (nb * 4096)).length = nb * 4096 := nought_length _
  generalize nought (nb * 4096) = Z at hm own B1 rw0 hlen ⊢
  obtain ⟨U, hU⟩ : ∃ U, U = w.alloc (.cells (bcs Z).toArray 5) := ⟨_, rfl⟩
  rw [← hU] at B1 rw0
  have ch := holding_at w.heap.size (nb * 4096) nb Z U rw0 hlen h1 h2
  have HU : Hid _ := hU
  clear own hU hlen hc
  go_enter Try.func11, Try.ntmps11
  go_wp2_with fail
  refine c.mono ?_
  rintro e w' ⟨rfl, rfl⟩
  go_wp2_with fail
  rw [← HU.out]
  refine ch.mono ?_
  rintro e w2 ⟨rfl, hd, b2⟩
  have B2 := B1.trans (b2.mono B1.size)
  have z1 := B1.size
  clear hm ch
  go_wp2
  go_ret2
  exact ⟨_, rfl, _, hd, fun i hi => by rcases hi with rfl | rfl; exact z1; exact Nat.le_refl _, B2⟩

theorem new_bad (n : Int) (w : World) (h : n < 1 ∨ 512 < n) :
    Calls Try.prog 11 #[.int .i64 n] w fun e w' => e = .returned (.tuple #[.pointer none, .int .i64 2]) ∧ w = w' := by
  have c := rightSize_at n w
  have hc : (decide ((1 : Int) ≤ n) && decide (n ≤ 512)) = false := by simp; omega
  rw [hc] at c
  clear hc h
  go_enter Try.func11, Try.ntmps11
  go_wp2_with fail
  refine c.mono ?_
  rintro e w' ⟨rfl, rfl⟩
  go_wp2
  go_ret2
  exact ⟨rfl, rfl⟩

end Go.Proofs.Ytdkaacjeogifdaa.Dk

/-
  Writes that are carried out upon an image.
-/
namespace Go.Proofs.Ytdkaacjeogifdaa.Dk
open Go.RowKit

theorem Upd.box {F : Nat → Prop} {w w' : World} {g : Nat} {cs : Array Value} {t : TypeId} (h : Upd F w w') (hb : Box w g cs t) (hg : ¬ F g) : Box w' g cs t := (h.block g hb.lt hg).trans hb
theorem Upd.rowB {F : Nat → Prop} {w w' : World} {g cap : Nat} {ys : List UInt8} (h : Upd F w w') (hb : RowB w g cap ys) (hg : ¬ F g) : RowB w' g cap ys := hb.same (h.block g hb.lt hg)
theorem Rd.part {w : World} {g o : Nat} {xs : List UInt8} (h : Rd w (some ⟨g, o, none⟩) xs) (k n : Nat) : Rd w (some ⟨g, o + k, none⟩) ((xs.drop k).take n) := fun hp => by
  have hk : k < xs.length := by simp at hp; omega
  obtain ⟨b', o', he, hc⟩ := h (by omega)
  simp only [Option.some.injEq, Addr.mk.injEq, and_true] at he
  obtain ⟨rfl, rfl⟩ := he
  refine ⟨g, o + k, rfl, fun j hj => ?_⟩
  have hj' : k + j < xs.length := by simp at hj; omega
  rw [Nat.add_assoc, hc (k + j) hj']
  simp

theorem and_one8 (a : Nat) (ha : a < 256) : bits .and .u8 (a : Int) 1 = ((a % 2 : Nat) : Int) := by
  have h := bits_mask .u8 8 (by decide) (fun n h0 h1 => by rw [IntKind.wrap_u8]; omega) 1 (by decide) (a : Int) (by omega) (by omega)
  simpa using h
theorem bitI (m k : Nat) (hm : m < 256) : (bits .and .u8 ((m : Int) / 2 ^ k) 1 == 1) = bit m k := by
  unfold bit
  have e : ((m : Int) / 2 ^ k) = ((m / 2 ^ k : Nat) : Int) := by push_cast; rfl
  rw [e, and_one8 _ (Nat.lt_of_le_of_lt (Nat.div_le_self _ _) hm)]
  rcases Nat.mod_two_eq_zero_or_one (m / 2 ^ k) with h | h <;> rw [h] <;> rfl

theorem part_i (g o len cap n size : Nat) (N S : Int) (w : World) (hN : N = (n : Int)) (hS : S = (size : Int)) (hf : n * size + size ≤ cap) (hc : cap ≤ 9223372036854775807) (hs : 0 < size) :
    Calls Try.prog 63 #[.slice (some ⟨g, o, none⟩) len cap, .int .i64 N, .int .i64 S] w fun e w' => e = .returned (.slice (some ⟨g, o + n * size, none⟩) size size) ∧ w = w' := by
  subst hN hS
  exact part_at g o len cap n size w hf hc hs

set_option maxRecDepth 100000 in
set_option maxHeartbeats 1000000 in
theorem carryOut_at (b gk ck gd cd L m : Nat) (data d : List UInt8) (w : World) (hk : RowB w gk ck data) (hd : RowB w gd cd d) (hne : gk ≠ gd) (hdl : data.length = 4096) (hL : d.length = L) (hb : b * 4096 + 4096 ≤ L) (hm : m < 256) :
    Calls Try.prog 48 #[.agg #[.int .i64 (b : Int), .slice (some ⟨gk, 0, none⟩) 4096 ck], .slice (some ⟨gd, 0, none⟩) L cd, .int .u8 (m : Int)] w fun e w' => e = .returned (.tuple #[]) ∧ RowB w' gd cd (carry d b data m) ∧ Upd (fun i => i = gd) w w' := by
  have x0 := Box.new w #[.int .i64 (b : Int), .slice (some ⟨gk, 0, none⟩) 4096 ck] 93
  have U0 := (Upd.refl (fun i => i = gd) w).alloc (.cells #[.int .i64 (b : Int), .slice (some ⟨gk, 0, none⟩) 4096 ck] 93)
  have hglt := hd.lt
  have hklt := hk.lt
  have hcd : L ≤ cd ∧ cd ≤ 9223372036854775807 := by
    obtain ⟨_, _, h1, h2, _⟩ := hd
    unfold maxLen at h2
    omega
  have hck : 4096 ≤ ck ∧ ck ≤ 9223372036854775807 := by
    obtain ⟨_, _, h1, h2, _⟩ := hk
    unfold maxLen at h2
    omega
  go_enter Try.func48, Try.ntmps48
  go_wp2_with fail
  obtain ⟨W, hW⟩ : ∃ W, W = w.alloc (.cells #[.int .i64 (b : Int), .slice (some ⟨gk, 0, none⟩) 4096 ck] 93) := ⟨_, rfl⟩
  rw [← hW] at x0 U0 ⊢
  have k0 := U0.rowB hk (fun h => hne h)
  have d0 : RowB W gd cd d := hd.same (by rw [hW]; exact Below.heap_alloc w _ gd hglt)
  obtain ⟨G, hG⟩ : ∃ G, G = w.heap.size := ⟨_, rfl⟩
  rw [← hG] at x0 ⊢
  have HL : Hid _ := hL
  have Hdl : Hid _ := hdl
  have hGd : G ≠ gd := by omega
  clear hW hG hk hd hL hdl hglt hklt
  refine (part_i gd 0 L cd b 4096 _ _ W rfl rfl (by omega) (by omega) (by omega)).mono ?_
  rintro e w' ⟨rfl, rfl⟩
  rw [Nat.zero_add]
  obtain ⟨O, hO⟩ : ∃ O, O = b * 4096 := ⟨_, rfl⟩
  rw [← hO]
  have HO : Hid _ := hO
  rw [← hO] at hb
  clear hO
  go_wp2_with fail
  go_loopw [12] (fun i wr => ∃ k : Nat, k ≤ 8 ∧ i = .int .i64 k ∧ Box wr G #[.int .i64 (b : Int), .slice (some ⟨gk, 0, none⟩) 4096 ck] 93 ∧ RowB wr gd cd (carryN d b data m k) ∧ RowB wr gk ck data ∧ Upd (fun i => i = gd) w wr) (fun i _ => 8 - (intOf i).toNat)
  case atStart => exact ⟨0, Nat.zero_le _, rfl, x0, d0, k0, U0⟩
  case round =>
    obtain ⟨k, hk, rfl, x, hd, hkd, U⟩ := hrel
    clear x0 d0 k0 U0
    by_cases hlt : k < 8
    · have hlt2 : (k : Int) < 8 := by omega
      have hbi := bitI m k hm
      have hcl : (carryN d b data m k).length = L := by rw [carryN_length d b data m (by rw [HL.out, ← HO.out]; exact hb) Hdl.out k hk, HL.out]
      have hsucc : carryN d b data m (k + 1) = if bit m k then putAt (carryN d b data m k) (b * 4096 + k * 512) (sec data k) else carryN d b data m k := rfl
      have Hcl : Hid _ := hcl
      have Hsucc : Hid _ := hsucc
      clear hcl hsucc
      cases hbit : bit m k with
      | false =>
        rw [hbit] at hbi
        have Hs : Hid (carryN d b data m (k + 1) = carryN d b data m k) := by have := Hsucc.out; rw [hbit] at this; exact this
        clear Hsucc
        go_wp2_with fail
        go_roundw
        case rel => exact ⟨k + 1, by omega, by go_num, x, by rw [Hs.out]; exact hd, hkd, U⟩
        case measure => simp [intOf]; omega
      | true =>
        rw [hbit] at hbi
        have Hs : Hid (carryN d b data m (k + 1) = putAt (carryN d b data m k) (O + k * 512) (sec data k)) := by have := Hsucc.out; rw [hbit, ← HO.out] at this; exact this
        clear Hsucc
        have hsl := sec_length data k Hdl.out hlt
        have x1 := x.cell 1
        simp only [List.getElem?_toArray, List.getElem?_cons_zero, List.getElem?_cons_succ] at x1
        have dr : RowB wr.drew gd cd (carryN d b data m k) := hd
        have kr : RowB wr.drew gk ck data := hkd
        have rs : Rd wr.drew (some ⟨gk, k * 512, none⟩) (sec data k) := by have := kr.rd.part (k * 512) 512; rw [Nat.zero_add] at this; exact this
        obtain ⟨V, hcp, hV, hgV⟩ := copy_row gd cd (O + k * 512) 512 512 (some ⟨gk, k * 512, none⟩) 512 (sec data k) (carryN d b data m k) wr.drew dr rs (by omega) (by rw [Hcl.out, hsl]; omega) (by omega)
        rw [hsl] at hcp
        have U2 : Upd (fun i => i = gd) w V := (U.drew).grown hgV (fun q e => by cases e; exact .inl rfl)
        have xV : Box V G #[.int .i64 (b : Int), .slice (some ⟨gk, 0, none⟩) 4096 ck] 93 := (hgV.block G x.lt (by simpa using hGd)).trans x
        have kV : RowB V gk ck data := kr.same (hgV.block gk kr.lt (by simpa using hne))
        clear hsl hgV dr kr rs
        go_wp2_with fail
        refine wp_region_any (by kernel_rfl) ?_
        change wpAny _ _ _ _ _ _ _ (World.drew _)
        refine wpAny_take (i := 0) (v := ?_) rfl (by kernel_rfl) (by kernel_rfl) (by kernel_rfl) (fun _ _ _ h => h) (Or.inl ⟨by rfl, ?_⟩) ?_
        rotate_left
        · intro w
          go_simp
          with_reducible rfl
        refine wpAny_take (i := 1) (v := ?_) rfl (by kernel_rfl) (by kernel_rfl) (by kernel_rfl) (fun _ _ _ h => h) (Or.inl ⟨by rfl, ?_⟩) ?_
        rotate_left
        · intro w
          go_simp
          with_reducible rfl
        refine wpAny_take (i := 3) (v := ?_) rfl (by kernel_rfl) (by kernel_rfl) (by kernel_rfl) (fun _ _ _ h => h) (Or.inl ⟨by rfl, ?_⟩) ?_
        rotate_left
        · intro w
          go_simp
          with_reducible rfl
        refine wpAny_take (i := 5) (v := ?_) rfl (by kernel_rfl) (by kernel_rfl) (by kernel_rfl) (fun _ _ _ h => h) (Or.inl ⟨by rfl, ?_⟩) ?_
        rotate_left
        · intro w
          go_simp
          with_reducible rfl
        simp only [Act.put, List.setIfInBounds_toArray, List.set_cons_zero, List.set_cons_succ, List.getElem_toArray, List.getElem_cons_zero, List.getElem_cons_succ]
        refine wpAny_of_class (C := SlotsCells [(23, .pointer (some ⟨G, 1, none⟩))] [(⟨G, 1, none⟩, .slice (some ⟨gk, 0, none⟩) 4096 ck)]) _ _ _ _ ?_
        have hq : ∀ u : World, Box u G #[.int .i64 (b : Int), .slice (some ⟨gk, 0, none⟩) 4096 ck] 93 → ∀ q ∈ ([(⟨G, 1, none⟩, .slice (some ⟨gk, 0, none⟩) 4096 ck)] : List (Addr × Value)), u.cell? q.1 = some q.2 := by
          intro u hu q hq
          simp at hq
          subst hq
          exact hu.cell 1
        have xd : Box wr.drew G #[.int .i64 (b : Int), .slice (some ⟨gk, 0, none⟩) 4096 ck] 93 := x
        refine wpAnyC_take (i := 4) (v := .slice (some ⟨gk, 0, none⟩) 4096 ck) rfl (by kernel_rfl) (by kernel_rfl) (by kernel_rfl) (fun _ _ _ h => h) ?_ (fun fr u h => (SlotsCells.put 24 _ (by rfl)).1 h) (fun fr u h => (SlotsCells.put 24 _ (by rfl)).2 h) ?_ ?_
        · intro fr u hh
          obtain ⟨e1, e2⟩ := hh.load (s := 23) (p := ⟨G, 1, none⟩) (v := .slice (some ⟨gk, 0, none⟩) 4096 ck) (by simp) (by simp)
          exact ⟨rfl, by simp [execOp, e1, go_sem, e2]⟩
        · refine ⟨fun p hp => ?_, hq _ xd⟩
          simp at hp
          subst hp
          rfl
        simp only [Act.put, List.setIfInBounds_toArray, List.set_cons_zero, List.set_cons_succ, List.getElem_toArray, List.getElem_cons_zero, List.getElem_cons_succ]
        refine wpAnyC_one (i := 2) (by kernel_rfl) rfl (fun K hK => ?_)
        go_simp
        refine (part_i gd O 4096 4096 k 512 _ _ wr.drew rfl rfl (by omega) (by omega) (by omega)).mono ?_
        rintro e w' ⟨rfl, rfl⟩
        refine hK _ _ ⟨?_, ?_⟩
        · refine ⟨fun p hp => ?_, hq _ xd⟩
          simp at hp
          subst hp
          rfl
        clear hK K
        refine wpAnyC_one (i := 6) (by kernel_rfl) rfl (fun K hK => ?_)
        go_simp
        refine (part_i gk 0 4096 ck k 512 _ _ wr.drew rfl rfl (by omega) (by omega) (by omega)).mono ?_
        rintro e w' ⟨rfl, rfl⟩
        rw [Nat.zero_add]
        refine hK _ _ ⟨?_, ?_⟩
        · refine ⟨fun p hp => ?_, hq _ xd⟩
          simp at hp
          subst hp
          rfl
        clear hK K
        refine wpAnyC_one (i := 7) (by kernel_rfl) rfl (fun K hK => ?_)
        go_simp
        refine hK _ _ ⟨?_, ?_⟩
        · refine ⟨fun p hp => ?_, hq _ xV⟩
          simp at hp
          subst hp
          rfl
        clear hK K hcp
        refine wpAnyC_done (by kernel_rfl) ?_ _
        go_wp2_with fail
        go_roundw
        case rel => exact ⟨k + 1, by omega, by go_num, xV, by rw [Hs.out]; exact hV, kV, U2⟩
        case measure => simp [intOf]; omega
    · obtain rfl : k = 8 := by omega
      go_wp2
      go_end0
      exact ⟨rfl, hd, U⟩
end Go.Proofs.Ytdkaacjeogifdaa.Dk

/-
  All unflushed writes carried out; Flush, Image, Crash.
-/
namespace Go.Proofs.Ytdkaacjeogifdaa.Dk
open Go.RowKit

/-- the row of the unflushed writes, cell by cell -/
theorem Lies.writes {w : World} {g : Nat} {D : DS} {F : Nat → Prop} {gd cd : Nat} {vu : Value} {ps : List (Nat × Nat × Nat)} (h : Lies w g D F gd cd vu ps) (h0 : 0 < D.uf.length) :
    ∃ gv cu cur, vu = .slice (some ⟨gv, 0, none⟩) D.uf.length cu ∧ D.uf.length ≤ cu ∧ cu ≤ 9223372036854775807 ∧ Box w gv cur 93 ∧
      ∀ k (hk : k < D.uf.length) (hp : k < ps.length), w.cell? ⟨gv, 0 + k * 2, none⟩ = some (.int .i64 (D.uf[k].1 : Int)) ∧ w.cell? ⟨gv, 0 + k * 2 + 1, none⟩ = some (.slice (some ⟨ps[k].2.1, 0, none⟩) 4096 ps[k].2.2) := by
  rcases h.row.2 with ⟨_, h1⟩ | ⟨gv, cu, cur, hv, hb, hg, hn, hm, hs, ht⟩
  · omega
  · refine ⟨gv, cu, cur, hv, hn, by unfold maxLen at hm; omega, hg, fun k hk hkp => ?_⟩
    obtain ⟨a0, a1⟩ := wcs_at ps k hkp
    have hc := h.row.cells (g := gv) (by rw [hv]; rfl)
    have c0 := hc _ _ a0
    have c1 := hc _ _ a1
    rw [Addr.add_lit] at c0 c1
    obtain ⟨e, _⟩ := h.each k hkp hk
    rw [e] at c0
    exact ⟨c0, c1⟩

set_option maxRecDepth 100000 in
set_option maxHeartbeats 1000000 in
theorem carryAll_at {g : Nat} {w : World} {D : DS} {F : Nat → Prop} {gd cd : Nat} {vu : Value} {ps : List (Nat × Nat × Nat)} (h : Lies w g D F gd cd vu ps) (gi ci L : Nat) (d : List UInt8) (hi : RowB w gi ci d) (hL : L = D.nb * 4096) (hd : d.length = L) (hne : ∀ k (hk : k < ps.length), ps[k].2.1 ≠ gi) :
    Calls Try.prog 46 #[.pointer (some ⟨g, 0, none⟩), .slice (some ⟨gi, 0, none⟩) L ci] w fun e w' => e = .returned (.tuple #[]) ∧ RowB w' gi ci (carryTo D.uf d D.uf.length) ∧ Upd (fun i => i = gi) w w' := by
  obtain ⟨_, _, c2, _⟩ := box_cells h.box
  by_cases h0 : 0 < D.uf.length
  · obtain ⟨gv, cu, cur, rfl, hcu, hmu, hbv, hcells⟩ := h.writes h0
    have hgi : gv ≠ gi := by
      obtain ⟨cur', hb', _⟩ := hi
      exact hbv.ne hb' (by decide)
    have Hcells : Hid _ := hcells
    have hlt := hbv.lt
    have Hd : Hid _ := hd
    have HL : Hid _ := hL
    have H : Hid (Lies w g D F gd cd (.slice (some ⟨gv, 0, none⟩) D.uf.length cu) ps) := h
    obtain ⟨n, hn⟩ : ∃ n, n = D.uf.length := ⟨_, rfl⟩
    rw [← hn] at hcu c2 ⊢
    have Hn : Hid _ := hn
    clear hcells hd hL h hn h0
    go_enter Try.func46, Try.ntmps46
    go_wp2_with fail
    go_loopw [11] (fun i wr => ∃ k : Nat, k ≤ n ∧ i = .int .i64 k ∧ RowB wr gi ci (carryTo D.uf d k) ∧ Upd (fun i => i = gi) w wr) (fun i _ => n - (intOf i).toNat)
    case atStart => exact ⟨0, Nat.zero_le _, rfl, hi, Upd.refl _ _⟩
    case round =>
      obtain ⟨k, hk, rfl, hrow, U⟩ := hrel
      clear hi
      by_cases hlt' : k < n
      · have hk' : k < D.uf.length := by rw [← Hn.out]; exact hlt'
        have hkp : k < ps.length := by rw [H.out.len]; exact hk'
        obtain ⟨a0, a1⟩ := Hcells.out k hk' hkp
        obtain ⟨_, hdat, _, _⟩ := H.out.each k hkp hk'
        obtain ⟨hb1, hb2⟩ := H.out.ok.at k hk'
        have hps := hne k hkp
        have hsucc : Hid (carryTo D.uf d (k + 1) = carry (carryTo D.uf d k) D.uf[k].1 D.uf[k].2 255) := carryTo_succ D.uf d k hk'
        have hlen : Hid ((carryTo D.uf d k).length = L) := by rw [carryTo_length D H.out.ok d (by rw [Hd.out, HL.out, H.out.ok.len]) k]; exact Hd.out
        have hroom : D.uf[k].1 * 4096 + 4096 ≤ L := by rw [HL.out]; omega
        generalize (ps[k]'hkp).2.1 = gk at a1 hdat hps
        generalize (ps[k]'hkp).2.2 = ck at a1 hdat
        generalize (D.uf[k]'hk').2 = data at hdat hb2 hsucc
        generalize (D.uf[k]'hk').1 = bn at a0 hsucc hb1 hroom
        have a0' := (World.cell?_of_block (a := ⟨gv, 0 + k * 2, none⟩) (U.block gv hlt hgi)).trans a0
        have a1' := (World.cell?_of_block (a := ⟨gv, 0 + k * 2 + 1, none⟩) (U.block gv hlt hgi)).trans a1
        simp only [Nat.zero_add] at a0' a1'
        have hdat' := U.rowB hdat hps
        have bA := (Below.refl wr.heap.size wr).alloc (Nat.le_refl _) (.cells #[.int .i64 (bn : Int), .slice (some ⟨gk, 0, none⟩) 4096 ck] 93)
        have U1 := U.alloc (.cells #[.int .i64 (bn : Int), .slice (some ⟨gk, 0, none⟩) 4096 ck] 93)
        have hrow1 := hrow.same (bA.block gi hrow.lt)
        have hdat1 := hdat'.same (bA.block gk hdat'.lt)
        have Hb2 : Hid _ := hb2
        clear a0 a1 hdat hdat' hb2 bA
        go_wp2_with fail
        refine (carryOut_at bn gk ck gi ci L 255 data (carryTo D.uf d k) _ hdat1 hrow1 hps Hb2.out hlen.out hroom (by omega)).mono ?_
        rintro e w1 ⟨rfl, r1, u1⟩
        have U2 := U1.trans u1 (fun i e => .inl e)
        clear hrow hrow1 hdat1 U1 u1 U
        go_wp2
        go_roundw
        case rel => exact ⟨k + 1, by omega, by go_num, by rw [hsucc.out]; exact r1, U2⟩
        case measure => simp [intOf]; omega
      · obtain rfl : k = n := by omega
        go_wp2
        go_end0
        exact ⟨rfl, hrow, U⟩
  · have hn : D.uf.length = 0 := by omega
    rw [hn]
    have hv : vu = .slice none 0 0 ∨ ∃ ad cu, vu = .slice (some ad) 0 cu := by
      rcases h.row.2 with ⟨h1, _⟩ | ⟨gv, cu, cur, hv, _⟩
      · exact .inl h1
      · exact .inr ⟨⟨gv, 0, none⟩, cu, by rw [hv, hn]⟩
    obtain ⟨av, cu, rfl⟩ : ∃ av cu, vu = .slice av 0 cu := by
      rcases hv with rfl | ⟨ad, cu, rfl⟩
      · exact ⟨none, 0, rfl⟩
      · exact ⟨some ad, cu, rfl⟩
    clear hv hd
    go_enter Try.func46, Try.ntmps46
    go_wp2_with fail
    refine wp_loop_rounds 1 ?_
    rw [rounds_succ]
    go_wp2
    go_end0
    exact ⟨rfl, hi, Upd.refl _ _⟩
end Go.Proofs.Ytdkaacjeogifdaa.Dk

/-
  Flush, Image.
-/
namespace Go.Proofs.Ytdkaacjeogifdaa.Dk
open Go.RowKit

/-- The unflushed writes are gone, what is durable has turned. -/
theorem Lies.emptied {w w1 : World} {g : Nat} {D : DS} {F : Nat → Prop} {gd cd : Nat} {vu : Value} {ps : List (Nat × Nat × Nat)} (h : Lies w g D F gd cd vu ps) (d : List UInt8) (hu : Upd (fun i => i = gd) w w1) (hr : RowB w1 gd cd d) (hl : d.length = D.dur.length) :
    Lies (w1.setCell ⟨g, 2, none⟩ (.slice none 0 0)) g { D with dur := d, uf := [] } F gd cd (.slice none 0 0) [] ∧ Upd F w (w1.setCell ⟨g, 2, none⟩ (.slice none 0 0)) := by
  have hne : g ≠ gd := by
    obtain ⟨cur, hb, _⟩ := h.dur
    exact h.box.ne hb (by decide)
  have b1 := hu.box h.box hne
  have b2 := b1.store 2 (.slice none 0 0)
  have gr := grown_store w1 g 2 (.slice none 0 0)
  refine ⟨⟨b2, hr.same (gr.block gd hr.lt (by simpa using hne.symm)), World.ownsRow_nil _ _ _ _, rfl, fun k hk => by simp at hk, h.fg, h.fd, fun k hk => by simp [Value.ownBlock] at hk, fun i hi => Nat.lt_of_lt_of_le (h.flt i hi) (Nat.le_trans hu.size gr.size), ?_⟩, ?_⟩
  · exact ⟨by show d.length = _; rw [hl, h.ok.len], h.ok.lo, h.ok.hi, by simp, h.ok.arm, h.ok.fail⟩
  · have u0 : Upd F w w1 := ⟨hu.os, hu.tape, hu.output, hu.size, fun k hk hn => hu.block k hk (fun e => hn (by rw [e]; exact h.fd))⟩
    exact u0.setCell (.inl h.fg) _

set_option maxRecDepth 100000 in
theorem flush_at {g : Nat} {w : World} {D : DS} {F : Nat → Prop} (hd : IsDisk w g D F) :
    Calls Try.prog 21 #[.pointer (some ⟨g, 0, none⟩)] w fun e w' => e = .returned (.int .i64 (D.operE : Int)) ∧ IsDisk w' g D.flush F ∧ Upd F w w' := by
  obtain ⟨gd, cd, vu, ps, h⟩ := hd
  have c := isMade_at h
  have hfl : Hid (D.flush = if D.operE = 0 then { D.oper with dur := D.image, uf := [] } else D.oper) := rfl
  have cO := operation_at h
  obtain ⟨E, hE⟩ : ∃ E, E = D.operE := ⟨_, rfl⟩
  rw [← hE] at hfl cO ⊢
  clear hE
  have hnb := D.oper_nb
  have hdur := D.oper_dur
  have huf := D.oper_uf
  have hfg := h.fg
  have himg : Hid (D.image = carryTo D.uf D.dur D.uf.length) := rfl
  generalize D.flush = Fl at hfl ⊢
  have Hnb : Hid _ := hnb
  have Hdur : Hid _ := hdur
  have Huf : Hid _ := huf
  clear hnb hdur huf
  by_cases h0 : E = 0
  · subst h0
    have hfl' : Hid (Fl = { D.oper with dur := D.image, uf := [] }) := by have := hfl.out; rw [if_pos rfl] at this; exact this
    clear hfl
    go_enter Try.func21, Try.ntmps21
    go_wp2_with fail
    refine c.mono ?_
    rintro e w' ⟨rfl, rfl⟩
    go_wp2_with fail
    refine cO.mono ?_
    rintro e w1 ⟨rfl, h1, g1⟩
    clear cO c
    obtain ⟨_, c1, _⟩ := box_cells h1.box
    have hneq : ∀ k (hk : k < ps.length), ps[k].2.1 ≠ gd := fun k hk => (h1.each k hk (by rw [← h1.len]; exact hk)).2.2.1
    go_wp2_with fail
    refine (carryAll_at h1 gd cd (D.oper.nb * 4096) D.oper.dur h1.dur rfl (by rw [h1.ok.len]) hneq).mono ?_
    rintro e w2 ⟨rfl, r2, u2⟩
    have hlen : (carryTo D.oper.uf D.oper.dur D.oper.uf.length).length = D.oper.dur.length := carryTo_length D.oper h1.ok D.oper.dur rfl _
    obtain ⟨hl, hu⟩ := h1.emptied _ u2 r2 hlen
    have hu0 : Upd F w w1 := (Upd.refl F w).grown g1 (fun k e => by cases e; exact .inl hfg)
    have hu3 := hu0.trans hu (fun i hi => .inl hi)
    rw [Huf.out, Hdur.out, ← himg.out] at hl
    have b2 : Box w2 g _ 87 := u2.box h1.box (by
      obtain ⟨cur, hb, _⟩ := h1.dur
      exact h1.box.ne hb (by decide))
    have f2 := b2.frozen 2
    obtain ⟨_, _, c2, _⟩ := box_cells b2
    clear c1 r2 u2 hu hu0 b2 h1 g1 hlen
    go_wp2
    go_ret
    rw [hfl'.out]
    exact ⟨rfl, ⟨_, _, _, _, hl⟩, hu3⟩
  · have hfl' : Hid (Fl = D.oper) := by have := hfl.out; rw [if_neg h0] at this; exact this
    have h0' : ((E : Int) != 0) = true := by simp; omega
    clear hfl h0
    go_enter Try.func21, Try.ntmps21
    go_wp2_with fail
    refine c.mono ?_
    rintro e w' ⟨rfl, rfl⟩
    go_wp2_with fail
    refine cO.mono ?_
    rintro e w1 ⟨rfl, h1, g1⟩
    have hu0 : Upd F w w1 := (Upd.refl F w).grown g1 (fun k e => by cases e; exact .inl hfg)
    clear cO c
    go_wp2
    go_ret
    rw [hfl'.out]
    exact ⟨rfl, ⟨_, _, _, _, h1⟩, hu0⟩

end Go.Proofs.Ytdkaacjeogifdaa.Dk
