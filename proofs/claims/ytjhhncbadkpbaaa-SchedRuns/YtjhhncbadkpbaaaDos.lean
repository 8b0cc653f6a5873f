/-
  Rows of what steps do, of the law's own making.
-/
import Derived.Test.YtjhhncbadkpbaaaAwk0
namespace Go.Proofs.Ytjhhncbadkpbaaa
open Go.RowKit

def dosC (l : List Do3) : List Value := l.flatMap fun d => [.int .i64 d.tell, .int .i64 d.wake, .bool d.inner]
theorem dosC_cons (d : Do3) (l : List Do3) : dosC (d :: l) = .int .i64 d.tell :: .int .i64 d.wake :: .bool d.inner :: dosC l := rfl
theorem dosC_length (l : List Do3) : (dosC l).length = l.length * 3 := by
  induction l with
  | nil => rfl
  | cons d l ih => rw [dosC_cons]; simp [ih]; omega
theorem dosC_at : ∀ (l : List Do3) (j : Nat) (h : j < l.length), (dosC l)[j * 3]? = some (.int .i64 l[j].tell) ∧ (dosC l)[j * 3 + 1]? = some (.int .i64 l[j].wake) ∧ (dosC l)[j * 3 + 2]? = some (.bool l[j].inner)
  | [], _, h => absurd h (Nat.not_lt_zero _)
  | d :: l, 0, _ => ⟨rfl, rfl, rfl⟩
  | d :: l, j + 1, h => by
    have := dosC_at l j (by simpa using h)
    rw [dosC_cons, show (j + 1) * 3 = j * 3 + 1 + 1 + 1 by omega]
    simpa using this
theorem dosC_set0 : ∀ (l : List Do3) (j : Nat) (t : Int) (h : j < l.length), (dosC l).set (j * 3) (.int .i64 t) = dosC (l.set j ⟨t, l[j].wake, l[j].inner⟩)
  | [], _, _, h => absurd h (Nat.not_lt_zero _)
  | d :: l, 0, t, _ => rfl
  | d :: l, j + 1, t, h => by
    have := dosC_set0 l j t (by simpa using h)
    rw [dosC_cons, show (j + 1) * 3 = j * 3 + 1 + 1 + 1 by omega, List.set_cons_succ, List.set_cons_succ, List.set_cons_succ, this, List.set_cons_succ, dosC_cons]
    rfl
theorem dosC_set1 : ∀ (l : List Do3) (j : Nat) (t : Int) (h : j < l.length), (dosC l).set (j * 3 + 1) (.int .i64 t) = dosC (l.set j ⟨l[j].tell, t, l[j].inner⟩)
  | [], _, _, h => absurd h (Nat.not_lt_zero _)
  | d :: l, 0, t, _ => rfl
  | d :: l, j + 1, t, h => by
    have := dosC_set1 l j t (by simpa using h)
    rw [dosC_cons, show (j + 1) * 3 + 1 = j * 3 + 1 + 1 + 1 + 1 by omega, List.set_cons_succ, List.set_cons_succ, List.set_cons_succ, this, List.set_cons_succ, dosC_cons]
    rfl
theorem dosC_set2 : ∀ (l : List Do3) (j : Nat) (t : Bool) (h : j < l.length), (dosC l).set (j * 3 + 2) (.bool t) = dosC (l.set j ⟨l[j].tell, l[j].wake, t⟩)
  | [], _, _, h => absurd h (Nat.not_lt_zero _)
  | d :: l, 0, t, _ => rfl
  | d :: l, j + 1, t, h => by
    have := dosC_set2 l j t (by simpa using h)
    rw [dosC_cons, show (j + 1) * 3 + 2 = j * 3 + 2 + 1 + 1 + 1 by omega, List.set_cons_succ, List.set_cons_succ, List.set_cons_succ, this, List.set_cons_succ, dosC_cons]
    rfl
/-- a row of the law's own -/
def DBox (w : World) (g : Nat) (l : List Do3) : Prop := Box w g (dosC l).toArray 45
theorem DBox.set0 {w : World} {g : Nat} {l : List Do3} (h : DBox w g l) (j : Nat) (t : Int) (hj : j < l.length) : DBox (w.setCell ⟨g, j * 3, none⟩ (.int .i64 t)) g (l.set j ⟨t, l[j].wake, l[j].inner⟩) := by
  have := Box.store h (j * 3) (.int .i64 t)
  rw [List.setIfInBounds_toArray, dosC_set0 l j t hj] at this
  exact this
theorem DBox.set1 {w : World} {g : Nat} {l : List Do3} (h : DBox w g l) (j : Nat) (t : Int) (hj : j < l.length) : DBox (w.setCell ⟨g, j * 3 + 1, none⟩ (.int .i64 t)) g (l.set j ⟨l[j].tell, t, l[j].inner⟩) := by
  have := Box.store h (j * 3 + 1) (.int .i64 t)
  rw [List.setIfInBounds_toArray, dosC_set1 l j t hj] at this
  exact this
theorem DBox.set2 {w : World} {g : Nat} {l : List Do3} (h : DBox w g l) (j : Nat) (t : Bool) (hj : j < l.length) : DBox (w.setCell ⟨g, j * 3 + 2, none⟩ (.bool t)) g (l.set j ⟨l[j].tell, l[j].wake, t⟩) := by
  have := Box.store h (j * 3 + 2) (.bool t)
  rw [List.setIfInBounds_toArray, dosC_set2 l j t hj] at this
  exact this
theorem DBox.at {w : World} {g : Nat} {l : List Do3} (h : DBox w g l) (j : Nat) (hj : j < l.length) : w.cell? ⟨g, j * 3, none⟩ = some (.int .i64 l[j].tell) ∧ w.cell? ⟨g, j * 3 + 1, none⟩ = some (.int .i64 l[j].wake) ∧ w.cell? ⟨g, j * 3 + 2, none⟩ = some (.bool l[j].inner) := by
  obtain ⟨a, b, c⟩ := dosC_at l j hj
  rw [Box.cell h, Box.cell h, Box.cell h]
  simp only [List.getElem?_toArray]
  exact ⟨a, b, c⟩
theorem DBox.row {w : World} {g : Nat} {l : List Do3} (h : DBox w g l) (B : Nat) : DoRow w B (some ⟨g, 0, none⟩) l := fun _ => ⟨g, 0, rfl, fun j hj => by rw [Nat.zero_add]; exact h.at j hj, .inr ⟨_, h⟩⟩
theorem info_do : (Try.prog.info? 45).map (fun i => (i.zero, i.size, i.bytes)) = some (some (.agg #[.int .i64 0, .int .i64 0, .bool false]), 3, 24) := by kernel_rfl
theorem made_do (n : Nat) : madeCells #[.int .i64 0, .int .i64 0, .bool false] (n * 3) = (dosC (List.replicate n do0)).toArray := by
  apply Array.ext'
  simp only [madeCells, Array.toList_map, Array.toList_range]
  induction n with
  | zero => rfl
  | succ n ih =>
    have m0 : (n * 3) % 3 = 0 := by omega
    have m1 : (n * 3 + 1) % 3 = 1 := by omega
    have m2 : (n * 3 + 2) % 3 = 2 := by omega
    rw [show (n + 1) * 3 = n * 3 + 1 + 1 + 1 by omega]
    simp only [List.range_succ, List.map_append, ih, List.map_cons, List.map_nil, List.replicate_succ', dosC, List.flatMap_append, List.flatMap_cons, List.flatMap_nil]
    simp [m0, m1, m2, do0]
theorem make_do (n : Nat) (hn : n * 24 ≤ 140737488355328) (u : World) : (Instr.makeSlice 43 (.int .i64 (n : Int)) (.int .i64 (n : Int))).run Try.prog u = .ok (.slice (some ⟨u.heap.size, 0, none⟩) n n) (u.alloc (.cells (dosC (List.replicate n do0)).toArray 45)) := by
  obtain ⟨i0, hi, hz0, hz1, hz2⟩ := info_parts info_do
  have h := run_make (P := Try.prog) u 43 45 i0 (.agg #[.int .i64 0, .int .i64 0, .bool false]) Try.underlying43 hi hz0 .i64 .i64 (n : Int) (n : Int) (by omega) (Int.le_refl _) (by rw [hz2]; omega) (by omega)
  have e : ((n : Int)).toNat = n := by omega
  rw [e, hz1] at h
  have e2 := made_do n
  rw [← e2]
  exact h
end Go.Proofs.Ytjhhncbadkpbaaa
