/-
  Entries; a memory's row of cells, five each: an entry, a version, an owner.
-/
import Derived.Test.YtlbjalodjcajfaaRow
namespace Go.Proofs.Ytlbjalodjcajfaa
open Go.RowKit
structure En where
  u : Bool
  k : ByteArray
  v : ByteArray
deriving DecidableEq
def E0 : En := ⟨false, ⟨#[]⟩, ⟨#[]⟩⟩
def eE : Enc En := ⟨fun e => .bool e.u, fun e => .string e.k, fun e => .string e.v, fun _ => rfl, fun _ => rfl, fun _ => rfl⟩
def ag (e : En) : Value := .agg #[.bool e.u, .string e.k, .string e.v]
/-- a cell: its entry, its version, its owner -/
structure Cl where
  e : En
  ver : Int
  own : Int
def cl (c : Cl) : List Value := [.bool c.e.u, .string c.e.k, .string c.e.v, .int .i64 c.ver, .int .i64 c.own]
def cls (C : List Cl) : List Value := C.flatMap cl
theorem cls_cons (c : Cl) (C : List Cl) : cls (c :: C) = .bool c.e.u :: .string c.e.k :: .string c.e.v :: .int .i64 c.ver :: .int .i64 c.own :: cls C := rfl
theorem cls_get {C : List Cl} {i : Nat} {c : Cl} (h : C[i]? = some c) : (cls C)[i * 5]? = some (.bool c.e.u) ∧ (cls C)[i * 5 + 1]? = some (.string c.e.k) ∧ (cls C)[i * 5 + 2]? = some (.string c.e.v) ∧ (cls C)[i * 5 + 3]? = some (.int .i64 c.ver) ∧ (cls C)[i * 5 + 4]? = some (.int .i64 c.own) := by
  induction C generalizing i with
  | nil => simp at h
  | cons x C ih =>
    cases i with
    | zero => simp at h; subst h; simp [cls_cons]
    | succ i =>
      have := ih (i := i) (by simpa using h)
      rw [cls_cons, show (i + 1) * 5 = i * 5 + 1 + 1 + 1 + 1 + 1 by omega, show i * 5 + 1 + 1 + 1 + 1 + 1 + 1 = (i * 5 + 1) + 1 + 1 + 1 + 1 + 1 by omega, show i * 5 + 1 + 1 + 1 + 1 + 1 + 2 = (i * 5 + 2) + 1 + 1 + 1 + 1 + 1 by omega, show i * 5 + 1 + 1 + 1 + 1 + 1 + 3 = (i * 5 + 3) + 1 + 1 + 1 + 1 + 1 by omega, show i * 5 + 1 + 1 + 1 + 1 + 1 + 4 = (i * 5 + 4) + 1 + 1 + 1 + 1 + 1 by omega]
      simpa only [List.getElem?_cons_succ] using this
theorem cls_made (n : Nat) : madeCells #[.bool false, .string ⟨#[]⟩, .string ⟨#[]⟩, .int .i64 0, .int .i64 0] (n * 5) = (cls (List.replicate n ⟨E0, 0, 0⟩)).toArray := by
  apply Array.ext'
  simp only [madeCells, Array.toList_map, Array.toList_range]
  induction n with
  | zero => rfl
  | succ n ih =>
    have m0 : (n * 5) % 5 = 0 := by omega
    have m1 : (n * 5 + 1) % 5 = 1 := by omega
    have m2 : (n * 5 + 2) % 5 = 2 := by omega
    have m3 : (n * 5 + 3) % 5 = 3 := by omega
    have m4 : (n * 5 + 4) % 5 = 4 := by omega
    rw [show (n + 1) * 5 = n * 5 + 1 + 1 + 1 + 1 + 1 by omega]
    simp only [List.range_succ, List.map_append, ih, List.map_cons, List.map_nil, List.replicate_succ', cls, List.flatMap_append, List.flatMap_cons, List.flatMap_nil]
    simp [m0, m1, m2, m3, m4, cl, E0]
theorem flat_made (n : Nat) : madeCells #[.bool false, .string ⟨#[]⟩, .string ⟨#[]⟩] (n * 3) = (flat eE (List.replicate n E0)).toArray := by
  apply Array.ext'
  simp only [madeCells, Array.toList_map, Array.toList_range]
  induction n with
  | zero => rfl
  | succ n ih =>
    have m0 : (n * 3) % 3 = 0 := by omega
    have m1 : (n * 3 + 1) % 3 = 1 := by omega
    have m2 : (n * 3 + 2) % 3 = 2 := by omega
    rw [show (n + 1) * 3 = n * 3 + 1 + 1 + 1 by omega]
    simp only [List.range_succ, List.map_append, ih, List.map_cons, List.map_nil, List.replicate_succ', flat, List.flatMap_append, List.flatMap_cons, List.flatMap_nil]
    simp [m0, m1, m2, eE, E0, Enc.f]
/-- a row of cells -/
theorem row_get {w : World} {g : Nat} {C : List Cl} (h : Box w g (cls C).toArray 110) {i : Nat} {c : Cl} (hc : C[i]? = some c) : w.cell? ⟨g, i * 5, none⟩ = some (.bool c.e.u) ∧ w.cell? ⟨g, i * 5 + 1, none⟩ = some (.string c.e.k) ∧ w.cell? ⟨g, i * 5 + 2, none⟩ = some (.string c.e.v) ∧ w.cell? ⟨g, i * 5 + 3, none⟩ = some (.int .i64 c.ver) ∧ w.cell? ⟨g, i * 5 + 4, none⟩ = some (.int .i64 c.own) := by
  obtain ⟨a, b, d, e, f⟩ := cls_get hc
  exact ⟨by rw [Box.cell h]; simpa using a, by rw [Box.cell h]; simpa using b, by rw [Box.cell h]; simpa using d, by rw [Box.cell h]; simpa using e, by rw [Box.cell h]; simpa using f⟩
end Go.Proofs.Ytlbjalodjcajfaa
