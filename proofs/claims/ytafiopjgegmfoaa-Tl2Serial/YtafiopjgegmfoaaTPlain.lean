/-
  Transactions, plainly: what a transaction is, and what each call does to it and to its memory.
-/
import Derived.Test.YtafiopjgegmfoaaSrt
import Derived.Test.YtafiopjgegmfoaaPlay
import Derived.Test.YtafiopjgegmfoaaCOwned
namespace Go.Proofs.Ytafiopjgegmfoaa.T
open Go.RowKit Go.Proofs.Ytafiopjgegmfoaa.C

/-- all that an owner has is given back -/
def _root_.Go.Proofs.Ytafiopjgegmfoaa.C.M.rel (S : M) (o : Int) : M := ⟨S.C.map (fun c => if c.own = o then { c with own := 0 } else c), S.k⟩
def relL (o : Int) (l : List Nat) (S : M) : M := ⟨S.C.mapIdx (fun j c => if j ∈ l ∧ c.own = o then { c with own := 0 } else c), S.k⟩
theorem mext {S T : M} (h : ∀ j : Nat, S.C[j]? = T.C[j]?) (hk : S.k = T.k) : S = T := by
  obtain ⟨C, k⟩ := S
  obtain ⟨C', k'⟩ := T
  have : C = C' := List.ext_getElem? h
  subst this
  subst hk
  rfl
theorem unlock_rel (S : M) (o : Int) (ho : 1 ≤ o) (i : Nat) : (S.unlock (i : Int) o).1 = relL o [i] S := by
  unfold M.unlock
  cases hc : S.cell? (i : Int) with
  | none =>
    have hc' : S.C[i]? = none := by simpa [M.cell?] using hc
    refine mext (fun j => ?_) rfl
    show S.C[j]? = (S.C.mapIdx _)[j]?
    rw [List.getElem?_mapIdx]
    cases hj : S.C[j]? with
    | none => rfl
    | some c =>
      have : ¬ (j ∈ [i] ∧ c.own = o) := fun h => by
        rw [List.mem_singleton] at h
        rw [h.1, hc'] at hj; cases hj
      simp only [Option.map_some, if_neg this]
  | some c =>
    have hc' : S.C[i]? = some c := by simpa [M.cell?] using hc
    have ho' : ¬ o < 1 := by omega
    simp only [if_neg ho']
    by_cases h : c.own ≠ o
    · rw [if_pos h]
      refine mext (fun j => ?_) rfl
      show S.C[j]? = (S.C.mapIdx _)[j]?
      rw [List.getElem?_mapIdx]
      cases hj : S.C[j]? with
      | none => rfl
      | some d =>
        have : ¬ (j ∈ [i] ∧ d.own = o) := fun h' => by
          rw [List.mem_singleton] at h'
          rw [h'.1, hc'] at hj
          injection hj with hj
          exact h (by rw [hj]; exact h'.2)
        simp only [Option.map_some, if_neg this]
    · rw [if_neg h]
      refine mext (fun j => ?_) rfl
      show (S.C.set ((i : Int)).toNat { c with own := 0 })[j]? = (S.C.mapIdx _)[j]?
      rw [List.getElem?_mapIdx, show ((i : Int)).toNat = i by omega, List.getElem?_set]
      by_cases e : i = j
      · subst e
        have hl : i < S.C.length := (List.getElem?_eq_some_iff.1 hc').1
        rw [if_pos rfl, if_pos hl, hc', Option.map_some, if_pos ⟨List.mem_singleton.2 rfl, by omega⟩]
      · rw [if_neg e]
        cases hj : S.C[j]? with
        | none => rfl
        | some d =>
          have : ¬ (j ∈ [i] ∧ d.own = o) := fun h' => e (List.mem_singleton.1 h'.1).symm
          simp only [Option.map_some, if_neg this]
theorem relL_cons (S : M) (o : Int) (i : Nat) (l : List Nat) : relL o l (relL o [i] S) = relL o (i :: l) S := by
  refine mext (fun j => ?_) rfl
  show ((S.C.mapIdx _).mapIdx _)[j]? = (S.C.mapIdx _)[j]?
  rw [List.getElem?_mapIdx, List.getElem?_mapIdx, List.getElem?_mapIdx]
  cases hj : S.C[j]? with
  | none => rfl
  | some c =>
    simp only [Option.map_some, List.mem_cons, Option.some.injEq]
    by_cases h1 : j = i <;> by_cases h2 : c.own = o <;> by_cases h3 : j ∈ l <;> simp [h1, h2, h3] <;> intros <;> omega
theorem relL_nil (S : M) (o : Int) : relL o [] S = S := by
  refine mext (fun j => ?_) rfl
  show (S.C.mapIdx _)[j]? = S.C[j]?
  rw [List.getElem?_mapIdx]
  cases S.C[j]? <;> simp
theorem fold_rel (o : Int) (ho : 1 ≤ o) : ∀ (l : List Nat) (S : M), l.foldl (fun S (i : Nat) => (M.unlock S (i : Int) o).1) S = relL o l S
  | [], S => (relL_nil S o).symm
  | i :: l, S => by rw [List.foldl_cons, fold_rel o ho l, unlock_rel S o ho i, relL_cons S o]
theorem owned_rel (S : M) (o : Int) (ho : 1 ≤ o) : (S.owned o).foldl (fun S (i : Nat) => (M.unlock S (i : Int) o).1) S = S.rel o := by
  rw [fold_rel o ho]
  refine mext (fun j => ?_) rfl
  show (S.C.mapIdx _)[j]? = (S.C.map _)[j]?
  rw [List.getElem?_mapIdx, List.getElem?_map]
  cases hj : S.C[j]? with
  | none => rfl
  | some c =>
    have hl : j < S.C.length := (List.getElem?_eq_some_iff.1 hj).1
    have : j ∈ S.owned o ↔ c.own = o := by
      unfold M.owned gat
      rw [if_pos ho]
      have e : S.C[j] = c := (List.getElem?_eq_some_iff.1 hj).2
      simp [hl, e]
    simp only [Option.map_some, this, and_self]

/-! ### a transaction -/
inductive Stp where
  | stay
  | lock (i : Int)
  | adv
  | look (i : Int)
  | pub (i : Int)
structure TX where
  own : Int
  beg : Int
  S : SS Int
  st : Int
  left : List Stp
  ver : Int
  pub : Bool
def X0 (o k : Int) : TX := ⟨o, k, ⟨[], [], []⟩, 1, [], 0, false⟩
def TX.fail (X : TX) : TX := { X with st := 4, left := [] }
/-- was it read with another version? -/
def TX.oth (X : TX) (i k : Int) : Bool := match gt X.S.R i with
  | some u => u != k
  | none => false
def TX.bad (X : TX) (i : Int) (c : Cl) : Prop := c.own ≠ 0 ∨ X.beg < c.ver ∨ X.oth i c.ver = true
instance (X : TX) (i : Int) (c : Cl) : Decidable (X.bad i c) := by unfold TX.bad; infer_instance
/-- what is told, the error, the memory, the transaction -/
def TX.read (m : M) (X : TX) (i : Int) : Int × Int × M × TX :=
  if X.st ≠ 1 then (0, 132, m, X) else
  match gt X.S.W i with
  | some v => (v, 0, m, X)
  | none => match m.cell? i with
    | none => (0, 2, m, X)
    | some c =>
      if X.bad i c then (0, 131, m.rel X.own, X.fail) else
      if (X.S.read i c.ver).1 ≠ 0 then (0, (X.S.read i c.ver).1, m, { X with S := (X.S.read i c.ver).2 }) else (iv c.v, 0, m, { X with S := (X.S.read i c.ver).2 })
def TX.write (m : M) (X : TX) (i v : Int) : Int × TX :=
  if X.st ≠ 1 then (132, X) else
  match m.cell? i with
  | none => (2, X)
  | some _ => ((X.S.write i v).1, { X with S := (X.S.write i v).2 })
def TX.mark (X : TX) : Int × TX := if X.st ≠ 1 then (132, X) else (X.S.mark.1, { X with S := X.S.mark.2 })
def TX.keep (X : TX) : Int × TX := if X.st ≠ 1 then (132, X) else (X.S.keep.1, { X with S := X.S.keep.2 })
def TX.undo (X : TX) : Int × TX := if X.st ≠ 1 then (132, X) else (X.S.undo.1, { X with S := X.S.undo.2 })
def TX.ends (X : TX) : List Stp :=
  if X.S.W.length = 0 then [.stay] else (srt (kys X.S.W)).map .lock ++ .adv :: ((srt (kys X.S.R)).map .look ++ (srt (kys X.S.W)).map .pub)
/-- one step: its error, the memory, the transaction -/
def TX.do1 (m : M) (X : TX) : Stp → Int × M × TX
  | .stay => (0, m, { X with ver := X.beg })
  | .lock i => ((m.lock i X.own).2, (m.lock i X.own).1, X)
  | .adv => (m.adv.2.2, m.adv.1, { X with ver := m.adv.2.1 })
  | .look i => match m.cell? i with
    | none => (2, m, X)
    | some c => if (c.own ≠ 0 ∧ c.own ≠ X.own) ∨ X.oth i c.ver = true then (131, m, X) else (0, m, X)
  | .pub i => ((m.publish i X.own (.int .i64 ((gt X.S.W i).getD 0)) X.ver).2, (m.publish i X.own (.int .i64 ((gt X.S.W i).getD 0)) X.ver).1, if (m.publish i X.own (.int .i64 ((gt X.S.W i).getD 0)) X.ver).2 = 0 then { X with pub := true } else X)
/-- behind a step -/
def TX.fin (own : Int) (L : List Stp) (r : Int × M × TX) : Int × Int × M × TX :=
  if r.1 ≠ 0 then (4, r.1, r.2.1.rel own, r.2.2.fail) else if L.length = 0 then (3, 0, r.2.1, { r.2.2 with st := 3, left := [] }) else (r.2.2.st, 0, r.2.1, r.2.2)
def TX.go (m : M) (X : TX) : Int × Int × M × TX := match X.left with
  | [] => (X.st, 0, m, X)
  | s :: L => TX.fin X.own L (TX.do1 m { X with left := L } s)
/-- the status, the error, the memory, the transaction -/
def TX.step (m : M) (X : TX) : Int × Int × M × TX :=
  if X.st = 3 ∨ X.st = 4 then (X.st, 132, m, X) else
  if X.st = 1 then TX.go m { X with st := 2, left := X.ends } else TX.go m X
def TX.abort (m : M) (X : TX) : Int × M × TX :=
  if X.st = 3 ∨ X.st = 4 ∨ X.pub = true then (132, m, X) else (0, m.rel X.own, X.fail)
def Stp.Bnd : Stp → Prop
  | .stay => True
  | .adv => True
  | .lock i => 0 ≤ i ∧ i < 1024
  | .look i => 0 ≤ i ∧ i < 1024
  | .pub i => 0 ≤ i ∧ i < 1024
/-- what stays true of a transaction -/
structure TX.Ok (X : TX) : Prop where
  own : 1 ≤ X.own ∧ X.own < 9223372036854775808
  st : X.st = 1 ∨ X.st = 2 ∨ X.st = 3 ∨ X.st = 4
  len : X.left.length ≤ 769
  bnd : ∀ s ∈ X.left, s.Bnd
/-- one that is ending has a step left -/
def TX.Rdy (X : TX) : Prop := X.st = 2 → X.left ≠ []
/-- a memory of numbers -/
def Num (m : M) : Prop := ∀ (i : Int) (c : Cl), m.cell? i = some c → ∃ y : Int, c.v = .int .i64 y
end Go.Proofs.Ytafiopjgegmfoaa.T
