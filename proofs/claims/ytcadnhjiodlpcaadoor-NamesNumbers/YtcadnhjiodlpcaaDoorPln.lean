/-
  Names and paths plainly, over lists of bytes.
-/
import Derived.WalkKit

namespace Go.Proofs.YtcadnhjiodlpcaaDoor
abbrev Tx := List UInt8
def okB (c : UInt8) : Bool := c != 0 && c != 47
def isName (s : Tx) : Bool := decide (1 ≤ s.length) && decide (s.length ≤ 60) && s.all okB && s != [46] && s != [46, 46]
/-- A text cut at each slash. -/
def spl : Tx → List Tx
  | [] => [[]]
  | c :: cs => if c = 47 then [] :: spl cs else (match spl cs with | [] => [[c]] | p :: ps => (c :: p) :: ps)
/-- Each name with a slash ahead. -/
def jn (ps : List Tx) : Tx := ps.flatMap (fun p => 47 :: p)
def pathOf (l : List Tx) : Tx := if l = [] then [47] else jn l
def splitP (s : Tx) : List Tx × Nat :=
  if s = [47] then ([], 0) else if 400 < s.length ∨ s.head? ≠ some 47 then ([], 211)
  else if 16 < (spl s.tail).length ∨ [] ∈ spl s.tail then ([], 211)
  else if (spl s.tail).all isName then (spl s.tail, 0) else ([], 210)
def joinP (l : List Tx) : Tx × Nat :=
  if l.all isName then (if 16 < l.length ∨ 400 < (pathOf l).length then ([], 211) else (pathOf l, 0)) else ([], 210)
def upP (s : Tx) : Tx × Tx × Nat :=
  if (splitP s).2 = 0 then (if (splitP s).1 = [] then ([], [], 211) else ((joinP (splitP s).1.dropLast).1, (splitP s).1.getLastD [], 0)) else ([], [], (splitP s).2)
def withinP (s t : Tx) : Bool := decide ((splitP s).2 = 0) && decide ((splitP t).2 = 0) && (splitP t).1.isPrefixOf (splitP s).1

/-! ### cutting -/
theorem spl_ne (s : Tx) : spl s ≠ [] := by
  cases s with
  | nil => simp [spl]
  | cons c cs =>
    unfold spl
    split
    · simp
    · split <;> simp
theorem spl_slash (r : Tx) : spl (47 :: r) = [] :: spl r := by simp [spl]
theorem spl_cons (c : UInt8) (cs p : Tx) (ps : List Tx) (hc : c ≠ 47) (h : spl cs = p :: ps) : spl (c :: cs) = (c :: p) :: ps := by
  rw [spl, if_neg hc, h]
theorem spl_free : ∀ (p : Tx), 47 ∉ p → spl p = [p]
  | [], _ => rfl
  | c :: p, h => by
    have ih := spl_free p (fun e => h (List.mem_cons_of_mem _ e))
    exact spl_cons c p p [] (fun e => h (by rw [e]; exact List.mem_cons_self)) ih
theorem spl_app : ∀ (p r : Tx), 47 ∉ p → spl (p ++ 47 :: r) = p :: spl r
  | [], r, _ => spl_slash r
  | c :: p, r, h => by
    have ih := spl_app p r (fun e => h (List.mem_cons_of_mem _ e))
    exact spl_cons c _ p _ (fun e => h (by rw [e]; exact List.mem_cons_self)) ih
theorem jn_spl : ∀ s : Tx, jn (spl s) = 47 :: s
  | [] => rfl
  | c :: cs => by
    have ih := jn_spl cs
    by_cases hc : c = 47
    · subst hc
      rw [spl_slash]
      show 47 :: jn (spl cs) = _
      rw [ih]
    · cases h : spl cs with
      | nil => exact absurd h (spl_ne cs)
      | cons p ps =>
        rw [h] at ih
        rw [spl_cons c cs p ps hc h]
        have e : 47 :: (p ++ jn ps) = 47 :: cs := ih
        show 47 :: (c :: p ++ jn ps) = _
        rw [List.cons_append, (List.cons.inj e).2]
theorem jn_cons (p : Tx) (ps : List Tx) : jn (p :: ps) = 47 :: (p ++ jn ps) := rfl
theorem jn_append (a b : List Tx) : jn (a ++ b) = jn a ++ jn b := by simp [jn]
theorem spl_jn : ∀ (ps : List Tx), ps ≠ [] → (∀ p ∈ ps, 47 ∉ p) → spl (jn ps).tail = ps
  | [], h, _ => absurd rfl h
  | [p], _, hf => by
    rw [jn_cons]
    simp only [jn, List.flatMap_nil, List.append_nil, List.tail_cons]
    exact spl_free p (hf p List.mem_cons_self)
  | p :: q :: ps, _, hf => by
    have ih := spl_jn (q :: ps) (by simp) (fun x hx => hf x (List.mem_cons_of_mem _ hx))
    rw [jn_cons q ps, List.tail_cons] at ih
    rw [jn_cons, jn_cons q ps, List.tail_cons, spl_app _ _ (hf p List.mem_cons_self), ih]
theorem isName_free {p : Tx} (h : isName p = true) : 47 ∉ p := by
  simp only [isName, Bool.and_eq_true, List.all_eq_true, okB] at h
  intro hm
  have := (h.1.1.2 47 hm).2
  simp at this
theorem isName_pos {p : Tx} (h : isName p = true) : 1 ≤ p.length ∧ p.length ≤ 60 := by
  simp only [isName, Bool.and_eq_true, decide_eq_true_eq] at h
  exact ⟨h.1.1.1.1, h.1.1.1.2⟩
theorem spl_tail_len (ps : List Tx) : (jn ps).length ≤ 61 * ps.length ∨ ∃ p ∈ ps, 60 < p.length := by
  induction ps with
  | nil => exact .inl (by simp [jn])
  | cons p ps ih =>
    by_cases h : 60 < p.length
    · exact .inr ⟨p, List.mem_cons_self, h⟩
    · rcases ih with ih | ⟨q, hq, h'⟩
      · refine .inl ?_
        rw [jn_cons]
        simp only [List.length_cons, List.length_append]
        omega
      · exact .inr ⟨q, List.mem_cons_of_mem _ hq, h'⟩

/-! ### what splitP and joinP tell -/
theorem splitP_cases (s : Tx) : splitP s = ([], 211) ∨ splitP s = ([], 210) ∨ (splitP s = ([], 0) ∧ s = [47]) ∨
    (splitP s = (spl s.tail, 0) ∧ s ≠ [47] ∧ s.length ≤ 400 ∧ s = 47 :: s.tail ∧ (spl s.tail).length ≤ 16 ∧ (∀ p ∈ spl s.tail, isName p = true)) := by
  unfold splitP
  by_cases h1 : s = [47]
  · rw [if_pos h1]; exact .inr (.inr (.inl ⟨rfl, h1⟩))
  rw [if_neg h1]
  by_cases h2 : 400 < s.length ∨ s.head? ≠ some 47
  · rw [if_pos h2]; exact .inl rfl
  rw [if_neg h2]
  by_cases h3 : 16 < (spl s.tail).length ∨ [] ∈ spl s.tail
  · rw [if_pos h3]; exact .inl rfl
  rw [if_neg h3]
  by_cases h4 : (spl s.tail).all isName = true
  · rw [if_pos h4]
    refine .inr (.inr (.inr ⟨rfl, h1, by omega, ?_, by omega, List.all_eq_true.1 h4⟩))
    cases s with
    | nil => simp at h2
    | cons c cs =>
      have : c = 47 := by
        apply Classical.byContradiction
        intro hc
        exact h2 (.inr (by simpa using hc))
      rw [this]; rfl
  · rw [if_neg h4]; exact .inr (.inl rfl)
/-- What a path is: its names. -/
def Good (l : List Tx) : Prop := (∀ p ∈ l, isName p = true) ∧ l.length ≤ 16 ∧ (pathOf l).length ≤ 400
theorem Good.join {l : List Tx} (h : Good l) : joinP l = (pathOf l, 0) := by
  unfold joinP
  rw [if_pos (List.all_eq_true.2 h.1), if_neg (by have := h.2; omega)]
theorem good_of_join {l : List Tx} (h : (joinP l).2 = 0) : Good l := by
  unfold joinP at h
  by_cases h1 : l.all isName = true
  · rw [if_pos h1] at h
    by_cases h2 : 16 < l.length ∨ 400 < (pathOf l).length
    · rw [if_pos h2] at h; simp at h
    · exact ⟨List.all_eq_true.1 h1, by omega, by omega⟩
  · rw [if_neg h1] at h; simp at h
theorem Good.split {l : List Tx} (h : Good l) : splitP (pathOf l) = (l, 0) := by
  by_cases h0 : l = []
  · subst h0; rfl
  have hp : pathOf l = jn l := if_neg h0
  have hs : spl (jn l).tail = l := spl_jn l h0 (fun p hp => isName_free (h.1 p hp))
  have hlen : (jn l).length ≤ 400 := by rw [← hp]; exact h.2.2
  rw [hp]
  obtain ⟨p, ps, rfl⟩ := List.exists_cons_of_ne_nil h0
  have hpos := isName_pos (h.1 p List.mem_cons_self)
  unfold splitP
  rw [hs]
  rw [if_neg (by rw [jn_cons]; intro e; have e2 := congrArg List.length e; simp only [List.length_cons, List.length_append, List.length_nil] at e2; omega),
    if_neg (by
      rintro (h' | h')
      · exact absurd hlen (by omega)
      · rw [jn_cons] at h'; exact h' rfl),
    if_neg (by
      rintro (h' | h')
      · have := h.2.1; omega
      · have := isName_pos (h.1 _ h'); simp at this), if_pos (List.all_eq_true.2 h.1)]
theorem good_of_split {s : Tx} (h : (splitP s).2 = 0) : Good (splitP s).1 ∧ pathOf (splitP s).1 = s := by
  rcases splitP_cases s with e | e | ⟨e, rfl⟩ | ⟨e, h1, h2, h3, h4, h5⟩
  · rw [e] at h; simp at h
  · rw [e] at h; simp at h
  · rw [e]; exact ⟨⟨by simp, by simp, by simp [pathOf]⟩, rfl⟩
  · rw [e]
    have hp : pathOf (spl s.tail) = s := by
      unfold pathOf
      rw [if_neg (spl_ne _), jn_spl]
      exact h3.symm
    exact ⟨⟨h5, h4, by rw [hp]; exact h2⟩, hp⟩
theorem splitP_err (s : Tx) : (splitP s).2 = 0 ∨ ((splitP s).1 = [] ∧ ((splitP s).2 = 210 ∨ (splitP s).2 = 211)) := by
  rcases splitP_cases s with e | e | ⟨e, _⟩ | ⟨e, _⟩ <;> rw [e] <;> simp
theorem joinP_err (l : List Tx) : (joinP l).2 = 0 ∨ ((joinP l).1 = [] ∧ ((joinP l).2 = 210 ∨ (joinP l).2 = 211)) := by
  unfold joinP
  repeat' split
  all_goals simp
theorem pathOf_take_len (l : List Tx) (n : Nat) : (pathOf (l.take n)).length ≤ max 1 (pathOf l).length := by
  have h : (jn l).length = (jn (l.take n)).length + (jn (l.drop n)).length := by
    rw [← List.length_append, ← jn_append, List.take_append_drop]
  unfold pathOf
  split
  · simp; omega
  · rename_i hn
    rw [if_neg (by intro e; subst e; exact hn (by simp))]; omega
theorem Good.take {l : List Tx} (h : Good l) (n : Nat) : Good (l.take n) :=
  ⟨fun p hp => h.1 p (List.mem_of_mem_take hp), by have := h.2.1; rw [List.length_take]; omega, by have := pathOf_take_len l n; have := h.2.2; omega⟩
theorem Good.up {l : List Tx} (h : Good l) (h0 : l ≠ []) : upP (pathOf l) = (pathOf l.dropLast, l.getLastD [], 0) := by
  unfold upP
  rw [h.split]
  simp only [if_true, if_neg h0]
  rw [List.dropLast_eq_take, (h.take _).join]
theorem Good.within {l m : List Tx} (h : Good l) (k : Good m) : withinP (pathOf l) (pathOf m) = m.isPrefixOf l := by
  unfold withinP
  rw [h.split, k.split]
  simp
end Go.Proofs.YtcadnhjiodlpcaaDoor
