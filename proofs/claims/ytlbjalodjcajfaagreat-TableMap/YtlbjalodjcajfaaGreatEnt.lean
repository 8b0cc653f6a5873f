/-
  Entries; a memory's row of cells, five each: an entry, a version, an owner. A memory's calls.
-/
import Derived.Test.YtlbjalodjcajfaaGreatRow
import Derived.Deep.RegionHeld3
namespace Go.Proofs.YtlbjalodjcajfaaGreat
open Go.RowKit
structure En where
  u : Bool
  k : ByteArray
  v : ByteArray
deriving DecidableEq
def E0 : En := ⟨false, ⟨#[]⟩, ⟨#[]⟩⟩
def eE : Enc En := ⟨fun e => .bool e.u, fun e => .string e.k, fun e => .string e.v, fun _ => rfl, fun _ => rfl, fun _ => rfl⟩
def ag (e : En) : Value := .agg #[.bool e.u, .string e.k, .string e.v]
/-- a cell: its entry, its version, its owner -/
structure Cl where
  e : En
  ver : Int
  own : Int
def cl (c : Cl) : List Value := [.bool c.e.u, .string c.e.k, .string c.e.v, .int .i64 c.ver, .int .i64 c.own]
def cls (C : List Cl) : List Value := C.flatMap cl
theorem cls_cons (c : Cl) (C : List Cl) : cls (c :: C) = .bool c.e.u :: .string c.e.k :: .string c.e.v :: .int .i64 c.ver :: .int .i64 c.own :: cls C := rfl
theorem cls_get {C : List Cl} {i : Nat} {c : Cl} (h : C[i]? = some c) : (cls C)[i * 5]? = some (.bool c.e.u) ∧ (cls C)[i * 5 + 1]? = some (.string c.e.k) ∧ (cls C)[i * 5 + 2]? = some (.string c.e.v) ∧ (cls C)[i * 5 + 3]? = some (.int .i64 c.ver) ∧ (cls C)[i * 5 + 4]? = some (.int .i64 c.own) := by
  induction C generalizing i with
  | nil => simp at h
  | cons x C ih =>
    cases i with
    | zero => simp at h; subst h; simp [cls_cons]
    | succ i =>
      have := ih (i := i) (by simpa using h)
      rw [cls_cons, show (i + 1) * 5 = i * 5 + 1 + 1 + 1 + 1 + 1 by omega, show i * 5 + 1 + 1 + 1 + 1 + 1 + 1 = (i * 5 + 1) + 1 + 1 + 1 + 1 + 1 by omega, show i * 5 + 1 + 1 + 1 + 1 + 1 + 2 = (i * 5 + 2) + 1 + 1 + 1 + 1 + 1 by omega, show i * 5 + 1 + 1 + 1 + 1 + 1 + 3 = (i * 5 + 3) + 1 + 1 + 1 + 1 + 1 by omega, show i * 5 + 1 + 1 + 1 + 1 + 1 + 4 = (i * 5 + 4) + 1 + 1 + 1 + 1 + 1 by omega]
      simpa only [List.getElem?_cons_succ] using this
theorem cls_made (n : Nat) : madeCells #[.bool false, .string ⟨#[]⟩, .string ⟨#[]⟩, .int .i64 0, .int .i64 0] (n * 5) = (cls (List.replicate n ⟨E0, 0, 0⟩)).toArray := by
  apply Array.ext'
  simp only [madeCells, Array.toList_map, Array.toList_range]
  induction n with
  | zero => rfl
  | succ n ih =>
    have m0 : (n * 5) % 5 = 0 := by omega
    have m1 : (n * 5 + 1) % 5 = 1 := by omega
    have m2 : (n * 5 + 2) % 5 = 2 := by omega
    have m3 : (n * 5 + 3) % 5 = 3 := by omega
    have m4 : (n * 5 + 4) % 5 = 4 := by omega
    rw [show (n + 1) * 5 = n * 5 + 1 + 1 + 1 + 1 + 1 by omega]
    simp only [List.range_succ, List.map_append, ih, List.map_cons, List.map_nil, List.replicate_succ', cls, List.flatMap_append, List.flatMap_cons, List.flatMap_nil]
    simp [m0, m1, m2, m3, m4, cl, E0]
theorem flat_made (n : Nat) : madeCells #[.bool false, .string ⟨#[]⟩, .string ⟨#[]⟩] (n * 3) = (flat eE (List.replicate n E0)).toArray := by
  apply Array.ext'
  simp only [madeCells, Array.toList_map, Array.toList_range]
  induction n with
  | zero => rfl
  | succ n ih =>
    have m0 : (n * 3) % 3 = 0 := by omega
    have m1 : (n * 3 + 1) % 3 = 1 := by omega
    have m2 : (n * 3 + 2) % 3 = 2 := by omega
    rw [show (n + 1) * 3 = n * 3 + 1 + 1 + 1 by omega]
    simp only [List.range_succ, List.map_append, ih, List.map_cons, List.map_nil, List.replicate_succ', flat, List.flatMap_append, List.flatMap_cons, List.flatMap_nil]
    simp [m0, m1, m2, eE, E0, Enc.f]
/-- a row of cells -/
theorem row_get {w : World} {g : Nat} {C : List Cl} (h : Box w g (cls C).toArray 119) {i : Nat} {c : Cl} (hc : C[i]? = some c) : w.cell? ⟨g, i * 5, none⟩ = some (.bool c.e.u) ∧ w.cell? ⟨g, i * 5 + 1, none⟩ = some (.string c.e.k) ∧ w.cell? ⟨g, i * 5 + 2, none⟩ = some (.string c.e.v) ∧ w.cell? ⟨g, i * 5 + 3, none⟩ = some (.int .i64 c.ver) ∧ w.cell? ⟨g, i * 5 + 4, none⟩ = some (.int .i64 c.own) := by
  obtain ⟨a, b, d, e, f⟩ := cls_get hc
  exact ⟨by rw [Box.cell h]; simpa using a, by rw [Box.cell h]; simpa using b, by rw [Box.cell h]; simpa using d, by rw [Box.cell h]; simpa using e, by rw [Box.cell h]; simpa using f⟩
end Go.Proofs.YtlbjalodjcajfaaGreat
namespace Go.Proofs.YtlbjalodjcajfaaGreat
open Go.RowKit
theorem infoM : (Tryz.prog.info? 56).map (fun i => (i.zero.isSome, i.size)) = some (true, 3) := by kernel_rfl
theorem poinM : Tryz.prog.underlying 23 = some (.pointer 56) := by kernel_rfl
theorem eqlM (g : Nat) (w : World) : (binOp .eql 23 (.pointer (some ⟨g, 0, none⟩)) (.pointer (some ⟨g, 0, none⟩))).run Tryz.prog w = .ok (.bool true) w := by
  cases h : Tryz.prog.info? 56 with
  | none => have := infoM; rw [h] at this; cases this
  | some i => exact run_eql_ptr_same w ⟨g, 0, none⟩ poinM h
theorem madeM {w : World} {m : Nat} {a b : Value} (h : Box w m #[ptr m, a, b] 56) : Calls Tryz.prog 38 #[ptr m] w fun r w' => r = .returned (.bool true) ∧ w' = w := by
  have c0 : w.cell? ⟨m, 0, none⟩ = some (ptr m) := h.cell 0
  unfold ptr at *
  have he := eqlM m
  go_enter Tryz.func38, Tryz.ntmps38
  go_wp2
  go_ret
  simp
section
variable {w : World} {m g n : Nat} {k : Int}
theorem size_at (h : Box w m #[ptr m, .slice (some ⟨g, 0, none⟩) n n, .int .i64 k] 56) : Calls Tryz.prog 16 #[ptr m] w fun r w' => r = .returned (.int .i64 (n : Int)) ∧ w' = w := by
  have c := madeM h
  have c1 : w.cell? ⟨m, 1, none⟩ = some (.slice (some ⟨g, 0, none⟩) n n) := h.cell 1
  clear h
  unfold ptr at *
  go_enter Tryz.func16, Tryz.ntmps16
  go_wp2_with (go_at_call 38; refine c.mono ?_; rintro e w' ⟨rfl, rfl⟩)
  go_ret
  simp
theorem clock_at (h : Box w m #[ptr m, .slice (some ⟨g, 0, none⟩) n n, .int .i64 k] 56) : Calls Tryz.prog 17 #[ptr m] w fun r w' => r = .returned (.int .i64 k) ∧ w' = w := by
  have c := madeM h
  have c1 : w.cell? ⟨m, 2, none⟩ = some (.int .i64 k) := h.cell 2
  clear h
  unfold ptr at *
  go_enter Tryz.func17, Tryz.ntmps17
  go_wp2_with (go_at_call 38; refine c.mono ?_; rintro e w' ⟨rfl, rfl⟩)
  go_ret
  simp
theorem find_in (h : Box w m #[ptr m, .slice (some ⟨g, 0, none⟩) n n, .int .i64 k] 56) (i : Nat) (hi : i < n) : Calls Tryz.prog 76 #[ptr m, .int .i64 (i : Int)] w fun r w' => r = .returned (.tuple #[.pointer (some ⟨g, i * 5, none⟩), .int .i64 0]) ∧ w' = w := by
  have c := madeM h
  have c1 : w.cell? ⟨m, 1, none⟩ = some (.slice (some ⟨g, 0, none⟩) n n) := h.cell 1
  clear h
  unfold ptr at *
  have h1 : (i : Int) < (n : Int) := by omega
  go_enter Tryz.func76, Tryz.ntmps76
  go_wp2_with (go_at_call 38; refine c.mono ?_; rintro e w' ⟨rfl, rfl⟩)
  go_ret2
  simp
theorem isOwner_at (w : World) (o : Int) : Calls Tryz.prog 74 #[.int .i64 o] w fun r w' => r = .returned (.bool (decide (1 ≤ o))) ∧ w' = w := by
  go_enter Tryz.func74, Tryz.ntmps74
  go_wp2
  go_ret
  simp
set_option maxRecDepth 100000 in
set_option maxHeartbeats 2000000 in
theorem load_at {C : List Cl} (h : Box w m #[ptr m, .slice (some ⟨g, 0, none⟩) n n, .int .i64 k] 56) (hr : Box w g (cls C).toArray 119) (hl : C.length = n) (i : Nat) (c : Cl) (hc : C[i]? = some c) : Calls Tryz.prog 62 #[ptr m, .int .i64 (i : Int)] w fun r w' => r = .returned (.tuple #[ag c.e, .int .i64 c.ver, .int .i64 c.own, .int .i64 0]) ∧ Below w.heap.size w w' := by
  have hi : i < n := by rw [← hl]; exact (List.getElem?_eq_some_iff.1 hc).1
  have hb2 : Below w.heap.size w (w.alloc (.cells #[.bool false, .string ⟨#[]⟩, .string ⟨#[]⟩] 28)) := (Below.refl _ w).alloc (Nat.le_refl _) _
  have h' : Box (w.alloc (.cells #[.bool false, .string ⟨#[]⟩, .string ⟨#[]⟩] 28)) m #[ptr m, .slice (some ⟨g, 0, none⟩) n n, .int .i64 k] 56 := h.below hb2 h.lt
  have cf := find_in h' i hi
  obtain ⟨d0, d1, d2, d3, d4⟩ := row_get (hr.below hb2 hr.lt) hc
  have HK : Hid (∀ o : Obj, _) := fun o => row_get ((hr.alloc o).drew 1) hc
  obtain ⟨⟨xu, xk, xv⟩, ver, own⟩ := c
  unfold ag
  simp only at *
  clear h h' hr hb2 hc hl
  unfold ptr at *
  go_enter Tryz.func62, Tryz.ntmps62
  go_wp2_with (go_at_call 76; refine cf.mono ?_; rintro e w' ⟨rfl, rfl⟩)
  go_region_held3 (fun u => u.cell? ⟨g, i * 5, none⟩ = some (.bool xu) ∧ u.cell? ⟨g, i * 5 + 1, none⟩ = some (.string xk) ∧ u.cell? ⟨g, i * 5 + 2, none⟩ = some (.string xv) ∧ u.cell? ⟨g, i * 5 + 3, none⟩ = some (.int .i64 ver) ∧ u.cell? ⟨g, i * 5 + 4, none⟩ = some (.int .i64 own)) (first | exact HK.out _ | go_keep) (fail)
  go_wp2
  refine bodyPost_ret (v := .tuple #[.agg #[.bool xu, .string xk, .string xv], .int .i64 ver, .int .i64 own, .int .i64 0]) (by simp [results, Tryz.results62, go_sem]) rfl ⟨rfl, ((Below.refl _ w).alloc (Nat.le_refl _) _).drew⟩
end
end Go.Proofs.YtlbjalodjcajfaaGreat
