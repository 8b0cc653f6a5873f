/-
  A table, plainly: pairs by rising keys.
-/
import Derived.Test.YtlbjalodjcajfaaGreatRmv
namespace Go.Proofs.YtlbjalodjcajfaaGreat
open Go.RowKit Go.Maps
abbrev Pr := ByteArray × ByteArray
def us (p : Pr) : En := ⟨true, p.1, p.2⟩
def tbl (n : Nat) (P : List Pr) : List En := P.map us ++ List.replicate (n - P.length) E0
def Asc (P : List Pr) : Prop := P.Pairwise (fun a b => blt a.1 b.1 = true)
theorem tbl_len {n : Nat} {P : List Pr} (h : P.length ≤ n) : (tbl n P).length = n := by unfold tbl; simp; omega
theorem tbl_lo {n : Nat} {P : List Pr} {i : Nat} {p : Pr} (h : P[i]? = some p) : (tbl n P)[i]? = some (us p) := by
  have := (List.getElem?_eq_some_iff.1 h).1
  unfold tbl
  rw [List.getElem?_append_left (by simpa using this), List.getElem?_map, h]
  rfl
theorem tbl_hi {n : Nat} {P : List Pr} {i : Nat} (h : P.length ≤ i) (hi : i < n) : (tbl n P)[i]? = some E0 := by
  unfold tbl
  rw [List.getElem?_append_right (by simpa using h), List.getElem?_replicate, if_pos (by simp; omega)]
theorem asc_at {P : List Pr} (h : Asc P) {i j : Nat} {a b : Pr} (hi : P[i]? = some a) (hj : P[j]? = some b) (hij : i < j) : blt a.1 b.1 = true := by
  obtain ⟨h1, rfl⟩ := List.getElem?_eq_some_iff.1 hi
  obtain ⟨h2, rfl⟩ := List.getElem?_eq_some_iff.1 hj
  exact List.pairwise_iff_getElem.1 h i j h1 h2 hij
theorem rgt_tbl {n : Nat} {P : List Pr} (h : Asc P) : Rgt (tbl n P) = true := by
  rw [rgt_iff]
  intro i hi
  unfold okAt
  by_cases hp : i < P.length
  · have hx := List.getElem?_eq_getElem hp
    rw [tbl_lo hx]
    cases i with
    | zero => rfl
    | succ i =>
      have hy := List.getElem?_eq_getElem (show i < P.length by omega)
      simp only [tbl_lo hy]
      have := asc_at h hy hx (by omega)
      simp [us, this]
  · have hn : i < n := by
      unfold tbl at hi
      simp at hi
      omega
    rw [tbl_hi (by omega) hn]
    simp [E0]
theorem tw_map (n : Nat) (f : ByteArray → Bool) : ∀ P : List Pr, ((P.map us ++ List.replicate n E0).takeWhile (fun e => e.u && !f e.k)).length = (P.takeWhile (fun p => !f p.1)).length
  | [] => by
    cases n with
    | zero => rfl
    | succ n => rw [List.map_nil, List.nil_append, List.replicate_succ, List.takeWhile_cons_of_neg (by simp [E0])]; rfl
  | p :: P => by
    rw [List.map_cons, List.cons_append]
    cases hf : f p.1 with
    | true => rw [List.takeWhile_cons_of_neg (by simp [us, hf]), List.takeWhile_cons_of_neg (by simp [hf])]; rfl
    | false => rw [List.takeWhile_cons_of_pos (by simp [us, hf]), List.takeWhile_cons_of_pos (by simp [hf]), List.length_cons, List.length_cons, tw_map n f P]
theorem pos_tbl (n : Nat) (P : List Pr) (f : ByteArray → Bool) : pos (tbl n P) f = (P.takeWhile (fun p => !f p.1)).length := tw_map _ f P
/-- ahead of a key, and from it on -/
structure Cut (P : List Pr) (key : ByteArray) (A B : List Pr) : Prop where
  eq : P = A ++ B
  lo : ∀ a ∈ A, blt a.1 key = true
  hi : ∀ b ∈ B, blt b.1 key = false
theorem cut_len {P A B : List Pr} {key : ByteArray} (h : Cut P key A B) (n : Nat) : posOf (tbl n P) key = A.length := by
  unfold posOf
  rw [pos_tbl]
  have e : P.takeWhile (fun p => !(pFrom key) p.1) = A := by
    rw [h.eq]
    have h1 : ∀ A : List Pr, (∀ a ∈ A, blt a.1 key = true) → (A ++ B).takeWhile (fun p => !(pFrom key) p.1) = A := by
      intro A
      induction A with
      | nil =>
        intro _
        cases hB : B with
        | nil => rfl
        | cons b B' =>
          rw [List.nil_append, List.takeWhile_cons_of_neg]
          have := h.hi b (by rw [hB]; exact List.mem_cons_self ..)
          simp [pFrom, this]
      | cons a A ih =>
        intro ha
        rw [List.cons_append, List.takeWhile_cons_of_pos (by simp [pFrom, ha a (List.mem_cons_self ..)]), ih (fun x hx => ha x (List.mem_cons_of_mem _ hx))]
    exact h1 A h.lo
  rw [e]
theorem tw_mem {α : Type} {f : α → Bool} : ∀ {l : List α} {a : α}, a ∈ l.takeWhile f → f a = true
  | [], a, h => by simp at h
  | x :: l, a, h => by
    cases hx : f x with
    | false => rw [List.takeWhile_cons_of_neg (by rw [hx]; simp)] at h; cases h
    | true =>
      rw [List.takeWhile_cons_of_pos hx] at h
      rcases List.mem_cons.1 h with rfl | h
      · exact hx
      · exact tw_mem h
theorem cut_ex {P : List Pr} (h : Asc P) (key : ByteArray) : ∃ A B, Cut P key A B := by
  refine ⟨P.takeWhile (fun p => blt p.1 key), P.dropWhile (fun p => blt p.1 key), (List.takeWhile_append_dropWhile ..).symm, fun a ha => ?_, ?_⟩
  · exact tw_mem (f := fun p : Pr => blt p.1 key) ha
  · induction P with
    | nil => intro b hb; simp at hb
    | cons p P ih =>
      intro b hb
      cases hp : blt p.1 key with
      | true =>
        rw [List.dropWhile_cons_of_pos (p := fun p : Pr => blt p.1 key) hp] at hb
        exact ih (List.Pairwise.of_cons h) b hb
      | false =>
        rw [List.dropWhile_cons_of_neg (by simp [hp])] at hb
        rcases List.mem_cons.1 hb with rfl | hb
        · exact hp
        · have h1 := List.rel_of_pairwise_cons h hb
          cases hk : blt b.1 key with
          | false => rfl
          | true => rw [blt_trans h1 hk] at hp; cases hp
/-- the pairs behind a Put -/
def insP (P : List Pr) (key val : ByteArray) : List Pr := P.takeWhile (fun p => blt p.1 key) ++ (key, val) :: (P.dropWhile (fun p => blt p.1 key)).filter (fun p => decide (p.1 ≠ key))
def delP (P : List Pr) (key : ByteArray) : List Pr := P.filter (fun p => decide (p.1 ≠ key))
def getP (P : List Pr) (key : ByteArray) : Option ByteArray := (P.find? (fun p => decide (p.1 = key))).map (·.2)
def nxtP (P : List Pr) (key : ByteArray) : Option Pr := P.find? (fun p => blt key p.1)
theorem cut_uniq {P A B : List Pr} {key : ByteArray} (h : Cut P key A B) : P.takeWhile (fun p => blt p.1 key) = A ∧ P.dropWhile (fun p => blt p.1 key) = B := by
  obtain ⟨rfl, lo, hi⟩ := h
  induction A with
  | nil =>
    cases B with
    | nil => exact ⟨rfl, rfl⟩
    | cons b B =>
      have := hi b (List.mem_cons_self ..)
      rw [List.nil_append, List.takeWhile_cons_of_neg (by simp [this]), List.dropWhile_cons_of_neg (by simp [this])]
      exact ⟨rfl, rfl⟩
  | cons a A ih =>
    have ha := lo a (List.mem_cons_self ..)
    obtain ⟨i1, i2⟩ := ih (fun x hx => lo x (List.mem_cons_of_mem _ hx))
    rw [List.cons_append, List.takeWhile_cons_of_pos (p := fun p : Pr => blt p.1 key) ha, List.dropWhile_cons_of_pos (p := fun p : Pr => blt p.1 key) ha, i1, i2]
    exact ⟨rfl, rfl⟩
theorem lo_ne {a : Pr} {key : ByteArray} (h : blt a.1 key = true) : a.1 ≠ key := fun e => by rw [e, blt_irrefl] at h; cases h
/-- where a key is there, it stands first behind the cut -/
theorem cut_has {P A B : List Pr} {key : ByteArray} (h : Cut P key A B) (ha : Asc P) {p : Pr} (hp : p ∈ P) (hk : p.1 = key) : ∃ B', B = p :: B' ∧ ∀ b ∈ B', b.1 ≠ key := by
  obtain ⟨rfl, lo, hi⟩ := h
  rcases List.mem_append.1 hp with hp | hp
  · exact absurd hk (lo_ne (lo p hp))
  · cases B with
    | nil => cases hp
    | cons b B =>
      have hB : Asc (b :: B) := (List.pairwise_append.1 ha).2.1
      have hbp : b = p := by
        rcases List.mem_cons.1 hp with rfl | hp
        · rfl
        · have h1 := List.rel_of_pairwise_cons hB hp
          rw [hk] at h1
          rw [hi b (List.mem_cons_self ..)] at h1
          cases h1
      subst hbp
      refine ⟨B, rfl, fun x hx e => ?_⟩
      have h1 := List.rel_of_pairwise_cons hB hx
      rw [e, hk, blt_irrefl] at h1
      cases h1
theorem filter_ne {key : ByteArray} {B : List Pr} (h : ∀ b ∈ B, b.1 ≠ key) : B.filter (fun p => decide (p.1 ≠ key)) = B := List.filter_eq_self.2 (fun b hb => by simpa using h b hb)
theorem insP_has {P A B' : List Pr} {key : ByteArray} {p : Pr} (h : Cut P key A (p :: B')) (hk : p.1 = key) (hB : ∀ b ∈ B', b.1 ≠ key) (val : ByteArray) : insP P key val = A ++ (key, val) :: B' := by
  obtain ⟨i1, i2⟩ := cut_uniq h
  unfold insP
  rw [i1, i2, List.filter_cons_of_neg (by simp [hk]), filter_ne hB]
theorem insP_new {P A B : List Pr} {key : ByteArray} (h : Cut P key A B) (hB : ∀ b ∈ B, b.1 ≠ key) (val : ByteArray) : insP P key val = A ++ (key, val) :: B := by
  obtain ⟨i1, i2⟩ := cut_uniq h
  unfold insP
  rw [i1, i2, filter_ne hB]
theorem delP_has {P A B' : List Pr} {key : ByteArray} {p : Pr} (h : Cut P key A (p :: B')) (hk : p.1 = key) (hB : ∀ b ∈ B', b.1 ≠ key) : delP P key = A ++ B' := by
  unfold delP
  rw [h.eq, List.filter_append, filter_ne (fun a ha => lo_ne (h.lo a ha)), List.filter_cons_of_neg (by simp [hk]), filter_ne hB]
theorem delP_no {P : List Pr} {key : ByteArray} (h : ∀ p ∈ P, p.1 ≠ key) : delP P key = P := filter_ne h
theorem getP_has {P A B' : List Pr} {key : ByteArray} {p : Pr} (h : Cut P key A (p :: B')) (hk : p.1 = key) : getP P key = some p.2 := by
  unfold getP
  rw [h.eq, List.find?_append, List.find?_eq_none.2 (fun a ha => by simpa using lo_ne (h.lo a ha)), List.find?_cons_of_pos (by simpa using hk)]
  rfl
theorem getP_no {P : List Pr} {key : ByteArray} (h : ∀ p ∈ P, p.1 ≠ key) : getP P key = none := by
  unfold getP
  rw [List.find?_eq_none.2 (fun a ha => by simpa using h a ha)]
  rfl
/-- either the key is there, or not -/
theorem cut_case {P : List Pr} (ha : Asc P) (key : ByteArray) : (∃ A p B', Cut P key A (p :: B') ∧ p.1 = key ∧ ∀ b ∈ B', b.1 ≠ key) ∨ (∃ A B, Cut P key A B ∧ ∀ p ∈ P, p.1 ≠ key) := by
  obtain ⟨A, B, h⟩ := cut_ex ha key
  by_cases hk : ∃ p ∈ P, p.1 = key
  · obtain ⟨p, hp, hk⟩ := hk
    obtain ⟨B', rfl, hB⟩ := cut_has h ha hp hk
    exact .inl ⟨A, p, B', h, hk, hB⟩
  · exact .inr ⟨A, B, h, fun p hp e => hk ⟨p, hp, e⟩⟩
end Go.Proofs.YtlbjalodjcajfaaGreat
