/-
  ring's own calls: within, Right, Free, behind, ask with its closures, At, Reserve, Release, Put, Drop.
-/
import Derived.Test.YtoopdooepnojhaaRows
import Derived.WalkKit
import Derived.WalkSpells
import Derived.WalkLawsBesides
import Derived.Laws.BytesArg
import Derived.ProofKit
import Derived.Laws.StructEq
import Derived.BigQuiet
import Derived.Deep.RegionWith
namespace Go.Proofs.Ytoopdooepnojhaa
open Go.RowKit

/-- a block that was made for one value -/
def Box (w : World) (g : Nat) (cs : Array Value) (t : TypeId) : Prop := w.heap[g]? = some (.cells cs t (0, 0))
theorem Box.cell {w : World} {g : Nat} {cs : Array Value} {t : TypeId} (h : Box w g cs t) (j : Nat) : w.cell? ⟨g, j, none⟩ = cs[j]? := cell_of_row w g j cs t (0, 0) h
theorem Box.lt {w : World} {g : Nat} {cs : Array Value} {t : TypeId} (h : Box w g cs t) : g < w.heap.size := (Array.getElem?_eq_some_iff.1 h).1
theorem Box.below {w w' : World} {g : Nat} {cs : Array Value} {t : TypeId} (h : Box w g cs t) (hb : Below w.heap.size w w') : Box w' g cs t := (hb.block g h.lt).trans h
theorem Box.new (w : World) (cs : Array Value) (t : TypeId) : Box (w.alloc (.cells cs t)) w.heap.size cs t := heap_alloc_new w _
theorem Box.frozen {w : World} {g : Nat} {cs : Array Value} {t : TypeId} (h : Box w g cs t) (j : Nat) : w.frozen? ⟨g, j, none⟩ = false := frozen_of_row w g j cs t h
theorem Box.store {w : World} {g : Nat} {cs : Array Value} {t : TypeId} (h : Box w g cs t) (j : Nat) (v : Value) : Box (w.setCell ⟨g, j, none⟩ v) g (cs.setIfInBounds j v) t := heap_setCell_same w g j cs t v h
theorem Box.other {w : World} {g k : Nat} {cs : Array Value} {t : TypeId} (h : Box w g cs t) (j : Nat) (v : Value) (hn : g ≠ k) : Box (w.setCell ⟨k, j, none⟩ v) g cs t := (heap_setCell_other w ⟨k, j, none⟩ g v hn).trans h
theorem Box.alloc {w : World} {g : Nat} {cs : Array Value} {t : TypeId} (h : Box w g cs t) (o : Obj) : Box (w.alloc o) g cs t := (Below.heap_alloc w o g h.lt).trans h
theorem Box.next (w : World) (o : Obj) (cs : Array Value) (t : TypeId) : Box ((w.alloc o).alloc (.cells cs t)) (w.heap.size + 1) cs t := by
  have := Box.new (w.alloc o) cs t
  simpa using this
theorem Box.next2 (w : World) (o o' : Obj) (cs : Array Value) (t : TypeId) : Box (((w.alloc o).alloc o').alloc (.cells cs t)) (w.heap.size + 2) cs t := by
  have := Box.new ((w.alloc o).alloc o') cs t
  simpa using this
theorem Box.next3 (w : World) (o o' o'' : Obj) (cs : Array Value) (t : TypeId) : Box ((((w.alloc o).alloc o').alloc o'').alloc (.cells cs t)) (w.heap.size + 3) cs t := by
  have := Box.new (((w.alloc o).alloc o').alloc o'') cs t
  simpa using this
theorem Box.all4 {w : World} {g : Nat} {v0 v1 v2 v3 : Value} {t : TypeId} (h : Box w g #[v0, v1, v2, v3] t) : w.cell? ⟨g, 0, none⟩ = some v0 ∧ w.cell? ⟨g, 1, none⟩ = some v1 ∧ w.cell? ⟨g, 2, none⟩ = some v2 ∧ w.cell? ⟨g, 3, none⟩ = some v3 :=
  ⟨h.cell 0, h.cell 1, h.cell 2, h.cell 3⟩
theorem Box.fr4 {w : World} {g : Nat} {cs : Array Value} {t : TypeId} (h : Box w g cs t) : w.frozen? ⟨g, 0, none⟩ = false ∧ w.frozen? ⟨g, 1, none⟩ = false ∧ w.frozen? ⟨g, 2, none⟩ = false ∧ w.frozen? ⟨g, 3, none⟩ = false :=
  ⟨h.frozen 0, h.frozen 1, h.frozen 2, h.frozen 3⟩
theorem Box.one {w : World} {g : Nat} {v0 : Value} {t : TypeId} (h : Box w g #[v0] t) : w.cell? ⟨g, 0, none⟩ = some v0 := h.cell 0
theorem keep {w wk w' : World} (B : Below w.heap.size w wk) (b : Below wk.heap.size wk w') : Below w.heap.size w w' := B.trans (b.mono B.size)
theorem keepA {w wk w' : World} {o : Obj} (B : Below w.heap.size w wk) (b : Below (wk.alloc o).heap.size (wk.alloc o) w') : Below w.heap.size w w' := keep (B.alloc B.size o) b

/-- the numbers make a right ring -/
def R (S T U H : Int) : Prop := (1 ≤ S ∧ S ≤ 512) ∧ (0 ≤ T ∧ T ≤ S - 1) ∧ (0 ≤ U ∧ U ≤ S) ∧ (0 ≤ H ∧ H ≤ S - U)
instance (S T U H : Int) : Decidable (R S T U H) := by unfold R; infer_instance
/-- a ring as a value's parts -/
def ri (S T U H : Int) : Array Value := #[.int .i64 S, .int .i64 T, .int .i64 U, .int .i64 H]

theorem within_at (n a b : Int) (w : World) :
    Calls Try.prog 28 #[.int .i64 n, .int .i64 a, .int .i64 b] w fun r w' => r = .returned (.bool (decide (a ≤ n ∧ n ≤ b))) ∧ w = w' := by
  by_cases h1 : a ≤ n
  · by_cases h2 : n ≤ b
    · rw [decide_eq_true ⟨h1, h2⟩]
      go_enter Try.func28, Try.ntmps28
      go_wp2
      go_ret
      exact ⟨rfl, rfl⟩
    · rw [decide_eq_false (fun h => h2 h.2)]
      go_enter Try.func28, Try.ntmps28
      go_wp2
      go_ret
      exact ⟨rfl, rfl⟩
  · rw [decide_eq_false (fun h => h1 h.1)]
    go_enter Try.func28, Try.ntmps28
    go_wp2
    go_ret
    exact ⟨rfl, rfl⟩

theorem right_at (S T U H : Int) (w : World) :
    Calls Try.prog 11 #[.agg (ri S T U H)] w fun r w' => r = .returned (.bool (decide (R S T U H))) ∧ Below w.heap.size w w' := by
  unfold ri
  have B := (Below.refl w.heap.size w).alloc (Nat.le_refl _) (.cells #[.int .i64 S, .int .i64 T, .int .i64 U, .int .i64 H] 23)
  by_cases h1 : 1 ≤ S ∧ S ≤ 512
  · by_cases h2 : 0 ≤ T ∧ T ≤ S - 1
    · by_cases h3 : 0 ≤ U ∧ U ≤ S
      · have e : decide (R S T U H) = decide (0 ≤ H ∧ H ≤ S - U) := decide_eq_decide.2 ⟨fun h => h.2.2.2, fun h => ⟨h1, h2, h3, h⟩⟩
        rw [e]
        go_enter Try.func11, Try.ntmps11
        go_wp2_with fail
        refine (within_at _ _ _ _).mono ?_
        rintro r w1 ⟨rfl, rfl⟩
        rw [decide_eq_true h1]
        go_wp2_with fail
        refine (within_at _ _ _ _).mono ?_
        rintro r w1 ⟨rfl, rfl⟩
        rw [decide_eq_true h2]
        go_wp2_with fail
        refine (within_at _ _ _ _).mono ?_
        rintro r w1 ⟨rfl, rfl⟩
        rw [decide_eq_true h3]
        go_wp2_with fail
        refine (within_at _ _ _ _).mono ?_
        rintro r w1 ⟨rfl, rfl⟩
        go_wp2_with fail
        go_ret
        exact ⟨by simp, B⟩
      · rw [decide_eq_false (p := R S T U H) (fun h => h3 h.2.2.1)]
        go_enter Try.func11, Try.ntmps11
        go_wp2_with fail
        refine (within_at _ _ _ _).mono ?_
        rintro r w1 ⟨rfl, rfl⟩
        rw [decide_eq_true h1]
        go_wp2_with fail
        refine (within_at _ _ _ _).mono ?_
        rintro r w1 ⟨rfl, rfl⟩
        rw [decide_eq_true h2]
        go_wp2_with fail
        refine (within_at _ _ _ _).mono ?_
        rintro r w1 ⟨rfl, rfl⟩
        rw [decide_eq_false h3]
        go_wp2_with fail
        go_ret
        exact ⟨rfl, B⟩
    · rw [decide_eq_false (p := R S T U H) (fun h => h2 h.2.1)]
      go_enter Try.func11, Try.ntmps11
      go_wp2_with fail
      refine (within_at _ _ _ _).mono ?_
      rintro r w1 ⟨rfl, rfl⟩
      rw [decide_eq_true h1]
      go_wp2_with fail
      refine (within_at _ _ _ _).mono ?_
      rintro r w1 ⟨rfl, rfl⟩
      rw [decide_eq_false h2]
      go_wp2_with fail
      go_ret
      exact ⟨rfl, B⟩
  · rw [decide_eq_false (p := R S T U H) (fun h => h1 h.1)]
    go_enter Try.func11, Try.ntmps11
    go_wp2_with fail
    refine (within_at _ _ _ _).mono ?_
    rintro r w1 ⟨rfl, rfl⟩
    rw [decide_eq_false h1]
    go_wp2_with fail
    go_ret
    exact ⟨rfl, B⟩

/-- what is free -/
def fr (S T U H : Int) : Int := if R S T U H then S - U - H else 0
theorem free_at (S T U H : Int) (w : World) :
    Calls Try.prog 12 #[.agg (ri S T U H)] w fun r w' => r = .returned (.int .i64 (fr S T U H)) ∧ Below w.heap.size w w' := by
  have B := (Below.refl w.heap.size w).alloc (Nat.le_refl _) (.cells (ri S T U H) 23)
  have bx := Box.new w (ri S T U H) 23
  unfold ri at *
  by_cases h : R S T U H
  · rw [fr, if_pos h]
    go_enter Try.func12, Try.ntmps12
    go_wp2_with fail
    refine (right_at _ _ _ _ _).mono ?_
    rintro r w1 ⟨rfl, b1⟩
    have bx1 := bx.below b1
    have B1 := keep B b1
    clear bx B b1
    obtain ⟨c0, c1, c2, c3⟩ := bx1.all4
    rw [decide_eq_true h]
    obtain ⟨h1, h2, h3, h4⟩ := h
    go_wp2_with fail
    go_ret
    exact ⟨rfl, B1⟩
  · rw [fr, if_neg h]
    go_enter Try.func12, Try.ntmps12
    go_wp2_with fail
    refine (right_at _ _ _ _ _).mono ?_
    rintro r w1 ⟨rfl, b1⟩
    have B1 := keep B b1
    clear bx B b1
    rw [decide_eq_false h]
    go_wp2_with fail
    go_ret
    exact ⟨rfl, B1⟩

theorem behind_at (S T U H n : Int) (w : World) (hS : 1 ≤ S) (hS' : S ≤ 512) (hT : 0 ≤ T) (hT' : T < S) (hn : 0 ≤ n) (hn' : n ≤ S) :
    Calls Try.prog 25 #[.agg (ri S T U H), .int .i64 n] w fun r w' => r = .returned (.int .i64 ((T + n) % S)) ∧ Below w.heap.size w w' := by
  have B := (Below.refl w.heap.size w).alloc (Nat.le_refl _) (.cells (ri S T U H) 23)
  have bx := Box.new w (ri S T U H) 23
  have e : (T + n).tmod S = (T + n) % S := Int.tmod_eq_emod_of_nonneg (by omega)
  unfold ri at *
  obtain ⟨c0, c1, c2, c3⟩ := bx.all4
  go_enter Try.func25, Try.ntmps25
  go_wp2_with fail
  go_ret
  exact ⟨by simp, B⟩

end Go.Proofs.Ytoopdooepnojhaa
