/-
  Blocks in memory, and what of them stays; a memory's blocks: its own three cells, and a row of cells of three each.
-/
import Derived.Test.YtafiopjgegmfoaaSet
namespace Go.Proofs.Ytafiopjgegmfoaa.C
open Go.RowKit
/-! ### cells -/
/-- a cell: its value, its version, its owner -/
structure Cl where
  v : Value
  ver : Int
  own : Int
def cl (c : Cl) : List Value := [c.v, .int .i64 c.ver, .int .i64 c.own]
def cls (C : List Cl) : List Value := C.flatMap cl
theorem cls_cons (c : Cl) (C : List Cl) : cls (c :: C) = c.v :: .int .i64 c.ver :: .int .i64 c.own :: cls C := rfl
theorem cls_get {C : List Cl} {i : Nat} {c : Cl} (h : C[i]? = some c) : (cls C)[i * 3]? = some c.v ∧ (cls C)[i * 3 + 1]? = some (.int .i64 c.ver) ∧ (cls C)[i * 3 + 2]? = some (.int .i64 c.own) := by
  induction C generalizing i with
  | nil => simp at h
  | cons x C ih =>
    cases i with
    | zero => simp at h; subst h; simp [cls_cons]
    | succ i =>
      have := ih (i := i) (by simpa using h)
      rw [cls_cons, show (i + 1) * 3 = i * 3 + 1 + 1 + 1 by omega, show i * 3 + 1 + 1 + 1 + 1 = (i * 3 + 1) + 1 + 1 + 1 by omega, show i * 3 + 1 + 1 + 1 + 2 = (i * 3 + 2) + 1 + 1 + 1 by omega]
      simpa only [List.getElem?_cons_succ] using this
theorem cls_set0 {C : List Cl} {i : Nat} {c : Cl} (h : C[i]? = some c) (v : Value) : (cls C).set (i * 3) v = cls (C.set i { c with v := v }) := by
  induction C generalizing i with
  | nil => simp at h
  | cons x C ih =>
    cases i with
    | zero => simp at h; subst h; simp [cls_cons]
    | succ i =>
      have := ih (i := i) (by simpa using h)
      rw [cls_cons, show (i + 1) * 3 = i * 3 + 1 + 1 + 1 by omega]
      simp only [List.set_cons_succ, this, cls_cons]
theorem cls_set1 {C : List Cl} {i : Nat} {c : Cl} (h : C[i]? = some c) (k : Int) : (cls C).set (i * 3 + 1) (.int .i64 k) = cls (C.set i { c with ver := k }) := by
  induction C generalizing i with
  | nil => simp at h
  | cons x C ih =>
    cases i with
    | zero => simp at h; subst h; simp [cls_cons]
    | succ i =>
      have := ih (i := i) (by simpa using h)
      rw [cls_cons, show (i + 1) * 3 + 1 = (i * 3 + 1) + 1 + 1 + 1 by omega]
      simp only [List.set_cons_succ, this, cls_cons]
theorem cls_set2 {C : List Cl} {i : Nat} {c : Cl} (h : C[i]? = some c) (k : Int) : (cls C).set (i * 3 + 2) (.int .i64 k) = cls (C.set i { c with own := k }) := by
  induction C generalizing i with
  | nil => simp at h
  | cons x C ih =>
    cases i with
    | zero => simp at h; subst h; simp [cls_cons]
    | succ i =>
      have := ih (i := i) (by simpa using h)
      rw [cls_cons, show (i + 1) * 3 + 2 = (i * 3 + 2) + 1 + 1 + 1 by omega]
      simp only [List.set_cons_succ, this, cls_cons]
theorem cls_made (z : Value) (n : Nat) : madeCells #[z, .int .i64 0, .int .i64 0] (n * 3) = (cls (List.replicate n ⟨z, 0, 0⟩)).toArray := by
  apply Array.ext'
  simp only [madeCells, Array.toList_map, Array.toList_range]
  induction n with
  | zero => rfl
  | succ n ih =>
    have m0 : (n * 3) % 3 = 0 := by omega
    have m1 : (n * 3 + 1) % 3 = 1 := by omega
    have m2 : (n * 3 + 2) % 3 = 2 := by omega
    rw [show (n + 1) * 3 = n * 3 + 1 + 1 + 1 by omega]
    simp only [List.range_succ, List.map_append, ih, List.map_cons, List.map_nil, List.replicate_succ', cls, List.flatMap_append, List.flatMap_cons, List.flatMap_nil]
    simp [m0, m1, m2, cl]
/-- a row of cells -/
def Row (t : TypeId) (w : World) (g : Nat) (C : List Cl) : Prop := Box w g (cls C).toArray t
theorem Row.get {t : TypeId} {w : World} {g : Nat} {C : List Cl} (h : Row t w g C) {i : Nat} {c : Cl} (hc : C[i]? = some c) : w.cell? ⟨g, i * 3, none⟩ = some c.v ∧ w.cell? ⟨g, i * 3 + 1, none⟩ = some (.int .i64 c.ver) ∧ w.cell? ⟨g, i * 3 + 2, none⟩ = some (.int .i64 c.own) := by
  obtain ⟨a, b, d⟩ := cls_get hc
  exact ⟨by rw [Box.cell h]; simpa using a, by rw [Box.cell h]; simpa using b, by rw [Box.cell h]; simpa using d⟩
theorem Row.set0 {t : TypeId} {w : World} {g : Nat} {C : List Cl} (h : Row t w g C) {i : Nat} {c : Cl} (hc : C[i]? = some c) (v : Value) : Row t (w.setCell ⟨g, i * 3, none⟩ v) g (C.set i { c with v := v }) := by
  have := Box.store h (i * 3) v
  rwa [List.setIfInBounds_toArray, cls_set0 hc] at this
theorem Row.set1 {t : TypeId} {w : World} {g : Nat} {C : List Cl} (h : Row t w g C) {i : Nat} {c : Cl} (hc : C[i]? = some c) (k : Int) : Row t (w.setCell ⟨g, i * 3 + 1, none⟩ (.int .i64 k)) g (C.set i { c with ver := k }) := by
  have := Box.store h (i * 3 + 1) (.int .i64 k)
  rwa [List.setIfInBounds_toArray, cls_set1 hc] at this
theorem Row.set2 {t : TypeId} {w : World} {g : Nat} {C : List Cl} (h : Row t w g C) {i : Nat} {c : Cl} (hc : C[i]? = some c) (k : Int) : Row t (w.setCell ⟨g, i * 3 + 2, none⟩ (.int .i64 k)) g (C.set i { c with own := k }) := by
  have := Box.store h (i * 3 + 2) (.int .i64 k)
  rwa [List.setIfInBounds_toArray, cls_set2 hc] at this
theorem getElem?_set_self' {α : Type} {l : List α} {i : Nat} {c : α} (h : l[i]? = some c) (d : α) : (l.set i d)[i]? = some d := by
  have := (List.getElem?_eq_some_iff.1 h).1
  simp [this]
/-- a whole cell is written -/
theorem Row.all {t : TypeId} {w : World} {g : Nat} {C : List Cl} (h : Row t w g C) {i : Nat} {c : Cl} (hc : C[i]? = some c) (v : Value) (k o : Int) : Row t (((w.setCell ⟨g, i * 3, none⟩ v).setCell ⟨g, i * 3 + 1, none⟩ (.int .i64 k)).setCell ⟨g, i * 3 + 2, none⟩ (.int .i64 o)) g (C.set i ⟨v, k, o⟩) := by
  have h1 := h.set0 hc v
  have h2 := h1.set1 (getElem?_set_self' hc _) k
  have h3 := h2.set2 (by rw [List.set_set]; exact getElem?_set_self' hc _) o
  rwa [List.set_set, List.set_set] at h3

/-! ### the document's words, plainly -/
structure M where
  C : List Cl
  k : Int
def M.cell? (S : M) (i : Int) : Option Cl := if 0 ≤ i then S.C[i.toNat]? else none
def M.put (S : M) (i : Int) (c : Cl) : M := ⟨S.C.set i.toNat c, S.k⟩
def M.adv (S : M) : M × Int × Int := if 1099511627776 ≤ S.k then (S, 0, 133) else (⟨S.C, S.k + 1⟩, S.k + 1, 0)
def M.fill (S : M) (i : Int) (v : Value) : M × Int := match S.cell? i with
  | none => (S, 2)
  | some c => if c.own ≠ 0 then (S, 130) else if 0 < c.ver then (S, 131) else (S.put i { c with v := v }, 0)
def M.lock (S : M) (i o : Int) : M × Int := match S.cell? i with
  | none => (S, 2)
  | some c => if o < 1 then (S, 2) else if c.own ≠ 0 ∧ c.own ≠ o then (S, 130) else (S.put i { c with own := o }, 0)
def M.unlock (S : M) (i o : Int) : M × Int := match S.cell? i with
  | none => (S, 2)
  | some c => if o < 1 then (S, 2) else if c.own ≠ o then (S, 130) else (S.put i { c with own := 0 }, 0)
def M.publish (S : M) (i o : Int) (v : Value) (k : Int) : M × Int := match S.cell? i with
  | none => (S, 2)
  | some c => if o < 1 then (S, 2) else if c.own ≠ o then (S, 130) else if k ≤ c.ver ∨ S.k < k then (S, 131) else (S.put i ⟨v, k, 0⟩, 0)
theorem M.cell_in {S : M} {i : Int} {c : Cl} (h : S.cell? i = some c) : ∃ j : Nat, i = (j : Int) ∧ S.C[j]? = some c ∧ j < S.C.length := by
  unfold M.cell? at h
  split at h
  · exact ⟨i.toNat, by omega, h, (List.getElem?_eq_some_iff.1 h).1⟩
  · cases h
theorem M.cell_out {S : M} {i : Int} (h : S.cell? i = none) : i < 0 ∨ (S.C.length : Int) ≤ i := by
  unfold M.cell? at h
  split at h
  · right; have := List.getElem?_eq_none_iff.1 h; omega
  · left; omega
/-- what stays true: how many cells there are, where the clock is -/
structure Rt (S : M) : Prop where
  n1 : 1 ≤ S.C.length
  n2 : S.C.length ≤ 1024
  k0 : 0 ≤ S.k
  k1 : S.k ≤ 1099511627776
theorem Rt.put {S : M} (h : Rt S) (i : Int) (c : Cl) : Rt (S.put i c) := ⟨by simpa [M.put] using h.n1, by simpa [M.put] using h.n2, h.k0, h.k1⟩
theorem Rt.adv {S : M} (h : Rt S) : Rt S.adv.1 := by
  unfold M.adv; split
  · exact h
  · exact ⟨h.n1, h.n2, by have := h.k0; simp; omega, by simp; omega⟩
theorem Rt.fill {S : M} (h : Rt S) (i : Int) (v : Value) : Rt (S.fill i v).1 := by
  unfold M.fill; repeat' split
  all_goals first | exact h | exact h.put _ _
theorem Rt.lock {S : M} (h : Rt S) (i o : Int) : Rt (S.lock i o).1 := by
  unfold M.lock; repeat' split
  all_goals first | exact h | exact h.put _ _
theorem Rt.unlock {S : M} (h : Rt S) (i o : Int) : Rt (S.unlock i o).1 := by
  unfold M.unlock; repeat' split
  all_goals first | exact h | exact h.put _ _
theorem Rt.publish {S : M} (h : Rt S) (i o : Int) (v : Value) (k : Int) : Rt (S.publish i o v k).1 := by
  unfold M.publish; repeat' split
  all_goals first | exact h | exact h.put _ _
/-- a memory: its types are tM, tC -/
structure IsM (tM tC : TypeId) (w : World) (B m : Nat) (S : M) : Prop where
  hm : B ≤ m
  rt : Rt S
  row : ∃ g, B ≤ g ∧ Box w m #[ptr m, .slice (some ⟨g, 0, none⟩) S.C.length S.C.length, .int .i64 S.k] tM ∧ Row tC w g S.C
theorem IsM.kt {tM tC : TypeId} {w w' : World} {B m : Nat} {S : M} (h : IsM tM tC w B m S) {p : TypeId → Prop} (hk : Kt p w w') (h1 : p tM) (h2 : p tC) : IsM tM tC w' B m S := by
  obtain ⟨g, hg, hb, hr⟩ := h.row
  exact ⟨h.hm, h.rt, g, hg, hk _ _ _ hb h1, hk _ _ _ hr h2⟩
theorem IsM.below {tM tC : TypeId} {w w' : World} {B m : Nat} {S : M} (h : IsM tM tC w B m S) (hb : Below w.heap.size w w') : IsM tM tC w' B m S := h.kt (p := fun _ => True) (Kt.below hb) trivial trivial
theorem IsM.hB {tM tC : TypeId} {w : World} {B m : Nat} {S : M} (h : IsM tM tC w B m S) : B ≤ w.heap.size := by
  obtain ⟨g, hg, hb, hr⟩ := h.row
  exact Nat.le_trans h.hm (Nat.le_of_lt hb.lt)
/-- what a call leaves: a memory, and all that is of other types as it was -/
structure To (tM tC : TypeId) (w : World) (B m : Nat) (S : M) (w' : World) : Prop where
  is : IsM tM tC w' B m S
  bel : Below B w w'
  kt : Kt (fun t => t ≠ tM ∧ t ≠ tC) w w'
  up : ∀ g n c, w.cell? ⟨m, 1, none⟩ = some (.slice (some ⟨g, 0, none⟩) n c) → w'.cell? ⟨m, 1, none⟩ = some (.slice (some ⟨g, 0, none⟩) n c) ∧ ∀ k, k < w.heap.size → k ≠ m → k ≠ g → w'.heap[k]? = w.heap[k]?
theorem To.same {tM tC : TypeId} {w : World} {B m : Nat} {S : M} (h : IsM tM tC w B m S) : To tM tC w B m S w := ⟨h, Below.refl _ _, Kt.refl _ _, fun _ _ _ e => ⟨e, fun _ _ _ _ => rfl⟩⟩
theorem To.ofRow {tM tC : TypeId} {w w' : World} {B m g : Nat} {S : M} (h : IsM tM tC w B m S) (hg : B ≤ g) (hb : Box w m #[ptr m, .slice (some ⟨g, 0, none⟩) S.C.length S.C.length, .int .i64 S.k] tM) (hr : Row tC w g S.C) (ht : tM ≠ tC) {C : List Cl} (hC : C.length = S.C.length) (hr' : Row tC w' g C) (hgr : w.grownBy w' (some g)) : To tM tC w B m ⟨C, S.k⟩ w' := by
  have hne : m ≠ g := hb.ne hr ht
  have hm' : Box w' m #[ptr m, .slice (some ⟨g, 0, none⟩) S.C.length S.C.length, .int .i64 S.k] tM := (hgr.block m hb.lt (by simpa using hne)).trans hb
  refine ⟨⟨h.hm, ⟨?_, ?_, h.rt.k0, h.rt.k1⟩, g, hg, ?_, hr'⟩, ?_, ?_, fun g' n c e => ?_⟩
  · simpa [hC] using h.rt.n1
  · simpa [hC] using h.rt.n2
  · rw [hC]; exact hm'
  · exact ⟨hgr.os, hgr.tape, hgr.output, hgr.size, fun i hi => hgr.block i (Nat.lt_of_lt_of_le hi h.hB) (by simp; omega)⟩
  · exact (Kt.refl _ _).grown hgr tC (fun k e => by cases e; exact ⟨_, hr⟩) (by simp)
  · have e1 : some (Value.slice (some ⟨g, 0, none⟩) S.C.length S.C.length) = some (.slice (some ⟨g', 0, none⟩) n c) := (hb.cell 1).symm.trans e
    have e2 : w'.cell? ⟨m, 1, none⟩ = w.cell? ⟨m, 1, none⟩ := (hm'.cell 1).trans (hb.cell 1).symm
    refine ⟨e2.trans e, fun k hk _ hkg => hgr.block k hk (fun h' => hkg ?_)⟩
    injection e1 with e1
    injection e1 with e1
    injection e1 with e1
    injection e1 with e1
    injection h' with h'
    rw [← e1, h']
theorem grown_store3 (w : World) (g i j k : Nat) (a b c : Value) : w.grownBy (((w.setCell ⟨g, i, none⟩ a).setCell ⟨g, j, none⟩ b).setCell ⟨g, k, none⟩ c) (some g) :=
  grown_trans (grown_trans (grown_store w g i a) (grown_store _ g j b)) (grown_store _ g k c)
end Go.Proofs.Ytafiopjgegmfoaa.C
