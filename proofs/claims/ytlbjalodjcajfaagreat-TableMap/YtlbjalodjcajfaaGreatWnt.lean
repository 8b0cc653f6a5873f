/-
  What a table is to hold, as a map beside its pairs.
-/
import Derived.Test.YtlbjalodjcajfaaGreatMst
namespace Go.Proofs.YtlbjalodjcajfaaGreat
open Go.RowKit Go.Maps
theorem MapS.drop {w : World} {b n : Nat} {m : List UInt8 → Option Value} (h : MapS w b n m) (t e : TypeId) (hu : Tryz.prog.underlying t = some (.map 9 e)) (k : ByteArray) (hk : k.size ≤ maxLen) (ty : TypeId) :
    ∃ w', (Builtin.delete_ #[t, 9] ty #[.map (some b), .string k]).run Tryz.prog w = .ok (.tuple #[]) w' ∧ MapS w' b n (fun j => if j = k.data.toList then none else m j) ∧ w.grownBy w' (some b) := by
  obtain ⟨D, h1, h2, h3⟩ := h
  obtain ⟨w', r, o, g⟩ := h1.drop keyed9 hu (key9 hk) ty
  refine ⟨w', r, ⟨_, o, fun j hj => trivial, fun j hj => ?_⟩, g.grown⟩
  dsimp only
  by_cases e : j = k.data.toList
  · subst e
    rw [if_pos rfl]
    exact ⟨has_del_same, fun z => atKey_del_same z⟩
  · have ne : Lit.string j ≠ Lit.string k.data.toList := fun h => e (by injection h)
    rw [if_neg e, has_del_other ne]
    exact ⟨(h3 j hj).1, fun z => (atKey_del_other ne z).trans ((h3 j hj).2 z)⟩
theorem getP_app (A B : List Pr) (k : ByteArray) (h : ∀ p ∈ A, p.1 ≠ k) : getP (A ++ B) k = getP B k := by
  unfold getP
  rw [List.find?_append, List.find?_eq_none.2 (fun p hp => by simpa using h p hp)]
  rfl
theorem getP_filter (B : List Pr) (key k : ByteArray) (h : k ≠ key) : getP (B.filter (fun p => decide (p.1 ≠ key))) k = getP B k := by
  unfold getP
  induction B with
  | nil => rfl
  | cons p B ih =>
    by_cases e : p.1 = key
    · have e2 : ¬ p.1 = k := fun e3 => h (e3.symm.trans e)
      rw [List.filter_cons_of_neg (by simpa using e), ih, List.find?_cons_of_neg (by simpa using e2)]
    · rw [List.filter_cons_of_pos (by simpa using e)]
      by_cases e2 : p.1 = k
      · rw [List.find?_cons_of_pos (by simpa using e2), List.find?_cons_of_pos (by simpa using e2)]
      · rw [List.find?_cons_of_neg (by simpa using e2), List.find?_cons_of_neg (by simpa using e2), ih]
theorem getP_del (P : List Pr) (key k : ByteArray) : getP (delP P key) k = if k = key then none else getP P k := by
  by_cases e : k = key
  · subst e
    rw [if_pos rfl]
    apply getP_no
    intro p hp
    have := (List.mem_filter.1 hp).2
    simpa using this
  · rw [if_neg e]
    exact getP_filter P key k e
theorem tw_lo (key : ByteArray) : ∀ (P : List Pr) (p : Pr), p ∈ P.takeWhile (fun p => blt p.1 key) → blt p.1 key = true := fun _ _ hp => tw_mem (f := fun p : Pr => blt p.1 key) hp
theorem getP_ins (P : List Pr) (key val k : ByteArray) : getP (insP P key val) k = if k = key then some val else getP P k := by
  unfold insP
  by_cases e : k = key
  · subst e
    rw [if_pos rfl, getP_app _ _ _ (fun p hp => lo_ne (tw_lo _ _ _ hp))]
    unfold getP
    rw [List.find?_cons_of_pos (by simp)]
    rfl
  · rw [if_neg e]
    have h1 : ∀ A B : List Pr, getP (A ++ (key, val) :: B) k = getP (A ++ B) k := fun A B => by
      unfold getP
      rw [List.find?_append, List.find?_append, List.find?_cons_of_neg (by simpa using fun h => e h.symm)]
    rw [h1]
    have h2 : ∀ A B : List Pr, getP (A ++ B.filter (fun p => decide (p.1 ≠ key))) k = getP (A ++ B) k := fun A B => by
      have := getP_filter B key k e
      unfold getP at *
      rw [List.find?_append, List.find?_append]
      cases hA : List.find? (fun p => decide (p.1 = k)) A with
      | some p => rfl
      | none => simpa using this
    rw [h2, List.takeWhile_append_dropWhile]
/-- the map of P -/
def bOf (j : List UInt8) : ByteArray := ⟨⟨j⟩⟩
def mOf (P : List Pr) (j : List UInt8) : Option Value := (getP P (bOf j)).map .string
theorem bOf_data (k : ByteArray) : bOf k.data.toList = k := rfl
theorem bOf_eq (j : List UInt8) (k : ByteArray) : j = k.data.toList ↔ bOf j = k := by
  constructor
  · rintro rfl; rfl
  · rintro rfl; rfl
/-- block b is a map that holds P -/
def IsW (w : World) (b n : Nat) (P : List Pr) : Prop := MapS w b n (mOf P)
variable {w w' : World} {b n : Nat} {P : List Pr}
theorem IsW.made (w : World) : IsW (w.alloc (.map #[] 0)) w.heap.size 0 [] := by
  have : mOf [] = fun _ => none := funext fun j => rfl
  unfold IsW
  rw [this]
  exact MapS.made w
theorem IsW.put (h : IsW w b n P) (hn : n < maxLen) (t : TypeId) (hu : Tryz.prog.underlying t = some (.map 9 9)) (k v : ByteArray) (hk : k.size ≤ maxLen) :
    ∃ w', (Instr.mapUpdate t (.map (some b)) (.string k) (.string v)).run Tryz.prog w = .ok () w' ∧ IsW w' b (n + 1) (insP P k v) ∧ w.grownBy w' (some b) := by
  obtain ⟨w', r, m, g⟩ := h.update hn t 9 hu k hk (.string v)
  refine ⟨w', r, ?_, g⟩
  have e1 : (fun j => if j = k.data.toList then some (.string v) else mOf P j) = mOf (insP P k v) := funext fun j => by
    unfold mOf
    rw [getP_ins]
    by_cases e : j = k.data.toList
    · rw [if_pos e, if_pos ((bOf_eq j k).1 e)]; rfl
    · rw [if_neg e, if_neg (fun h => e ((bOf_eq j k).2 h))]
  unfold IsW
  rw [← e1]
  exact m
theorem IsW.del (h : IsW w b n P) (t : TypeId) (hu : Tryz.prog.underlying t = some (.map 9 9)) (k : ByteArray) (hk : k.size ≤ maxLen) (ty : TypeId) :
    ∃ w', (Builtin.delete_ #[t, 9] ty #[.map (some b), .string k]).run Tryz.prog w = .ok (.tuple #[]) w' ∧ IsW w' b n (delP P k) ∧ w.grownBy w' (some b) := by
  obtain ⟨w', r, m, g⟩ := MapS.drop h t 9 hu k hk ty
  refine ⟨w', r, ?_, g⟩
  have e1 : (fun j => if j = k.data.toList then none else mOf P j) = mOf (delP P k) := funext fun j => by
    unfold mOf
    rw [getP_del]
    by_cases e : j = k.data.toList
    · rw [if_pos e, if_pos ((bOf_eq j k).1 e)]; rfl
    · rw [if_neg e, if_neg (fun h => e ((bOf_eq j k).2 h))]
  unfold IsW
  rw [← e1]
  exact m
theorem IsW.look (h : IsW w b n P) (t : TypeId) (hu : Tryz.prog.underlying t = some (.map 9 9)) (hz : ∀ w : World, (zeroValue 9).run Tryz.prog w = .ok (.string ⟨#[]⟩) w) (k : ByteArray) (hk : k.size ≤ maxLen) :
    (Instr.lookup t (.map (some b)) (.string k) true).run Tryz.prog w = .ok (.tuple #[.string ((getP P k).getD ⟨#[]⟩), .bool (getP P k).isSome]) w := by
  have := MapS.look h t 9 (.string ⟨#[]⟩) hu hz k hk
  rw [this]
  unfold mOf
  rw [bOf_data]
  cases getP P k <;> rfl
theorem IsW.len (h : IsW w b n P) (ha : Asc P) (t : TypeId) (hu : Tryz.prog.underlying t = some (.map 9 9)) (ty : TypeId) :
    (Builtin.len_ #[t] ty #[.map (some b)]).run Tryz.prog w = .ok (.int .i64 (P.length : Int)) w := by
  have := MapS.len h (P.map (fun p => p.1.data.toList)) (List.pairwise_map.2 (ha.imp (fun {p q} hb e => by
    have e2 : p.1 = q.1 := ByteArray.ext (Array.toList_inj.1 e)
    rw [e2, blt_irrefl] at hb
    cases hb))) (fun x => by
      show _ ↔ (mOf P x).isSome = true
      unfold mOf
      rw [Option.isSome_map, getP_iff, List.mem_map]
      constructor
      · rintro ⟨p, hp, rfl⟩; exact ⟨p, hp, rfl⟩
      · rintro ⟨p, hp, e⟩; exact ⟨p, hp, ((bOf_eq x p.1).2 e.symm).symm⟩) t 9 hu ty
  simpa using this
theorem IsW.stay (h : IsW w b n P) (hb : w'.heap[b]? = w.heap[b]?) : IsW w' b n P := MapS.stay h hb
theorem IsW.lt (h : IsW w b n P) : b < w.heap.size := MapS.lt h
end Go.Proofs.YtlbjalodjcajfaaGreat
