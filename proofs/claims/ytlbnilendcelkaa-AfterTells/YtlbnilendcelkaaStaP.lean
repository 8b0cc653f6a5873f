/-
  Blocks that are put in order and merged, plainly.
-/
import Derived.Test.YtlbnilendcelkaaMrgP
namespace Go.Proofs.Ytlbnilendcelkaa
open Go.RowKit
section
variable {F : Type} (k : F → Int)
abbrev Pr (F : Type) := List F × List F
def cat1 (bs : List (Pr F)) : List F := (bs.map fun p => p.1).flatten
def cat2 (bs : List (Pr F)) : List F := (bs.map fun p => p.2).flatten
def Bs (z : Nat) (bs : List (Pr F)) : Prop := ∀ p ∈ bs, p.1.length = z ∧ Stb k p.1 p.2
theorem Bs.len1 {z : Nat} {bs : List (Pr F)} (h : Bs k z bs) : (cat1 bs).length = bs.length * z := by
  induction bs with
  | nil => simp [cat1]
  | cons p bs ih =>
    have h1 := (h p (by simp)).1
    have h2 := ih (fun q hq => h q (by simp [hq]))
    simp only [cat1, List.map_cons, List.flatten_cons, List.length_append, List.length_cons] at h2 ⊢
    rw [h1, h2, Nat.succ_mul]; omega
theorem Bs.len2 {z : Nat} {bs : List (Pr F)} (h : Bs k z bs) : (cat2 bs).length = bs.length * z := by
  induction bs with
  | nil => simp [cat2]
  | cons p bs ih =>
    have h1 := (h p (by simp)).1
    have h3 := (h p (by simp)).2.len
    have h2 := ih (fun q hq => h q (by simp [hq]))
    simp only [cat2, List.map_cons, List.flatten_cons, List.length_append, List.length_cons] at h2 ⊢
    rw [h3, h1, h2, Nat.succ_mul]; omega
theorem cat1_snoc (bs : List (Pr F)) (p : Pr F) : cat1 (bs ++ [p]) = cat1 bs ++ p.1 := by simp [cat1]
theorem cat2_snoc (bs : List (Pr F)) (p : Pr F) : cat2 (bs ++ [p]) = cat2 bs ++ p.2 := by simp [cat2]
theorem cat1_cons (bs : List (Pr F)) (p : Pr F) : cat1 (p :: bs) = p.1 ++ cat1 bs := by simp [cat1]
theorem cat2_cons (bs : List (Pr F)) (p : Pr F) : cat2 (p :: bs) = p.2 ++ cat2 bs := by simp [cat2]
theorem Bs.snoc {z : Nat} {bs : List (Pr F)} (h : Bs k z bs) {p : Pr F} (h1 : p.1.length = z) (h2 : Stb k p.1 p.2) : Bs k z (bs ++ [p]) := fun q hq => by
  rcases List.mem_append.1 hq with hq | hq
  · exact h q hq
  · simp at hq; subst hq; exact ⟨h1, h2⟩
/-- the first blocks, up to a, are in order -/
def Ph1 (z : Nat) (X L : List F) (a : Nat) : Prop := ∃ bs R, X = cat1 bs ++ R ∧ L = cat2 bs ++ R ∧ Bs k z bs ∧ a = (cat1 bs).length
/-- all blocks are in order -/
def Ph2 (z : Nat) (X L : List F) : Prop := ∃ bs R R', X = cat1 bs ++ R ∧ L = cat2 bs ++ R' ∧ Bs k z bs ∧ Stb k R R' ∧ R.length < z
/-- the first pairs of blocks, up to a, are merged -/
def Ph3 (z : Nat) (X L : List F) (a : Nat) : Prop := ∃ es bs R R', X = cat1 es ++ cat1 bs ++ R ∧ L = cat2 es ++ cat2 bs ++ R' ∧ Bs k (2 * z) es ∧ Bs k z bs ∧ Stb k R R' ∧ R.length < z ∧ a = (cat1 es).length
theorem Ph1.start (z : Nat) (X : List F) : Ph1 k z X X 0 := ⟨[], X, rfl, rfl, (fun p hp => by simp at hp), rfl⟩
theorem Ph1.len {z : Nat} {X L : List F} {a : Nat} (h : Ph1 k z X L a) : L.length = X.length ∧ a ≤ X.length := by
  obtain ⟨bs, R, rfl, rfl, h1, rfl⟩ := h
  simp [h1.len1, h1.len2]
theorem Ph1.go {z : Nat} {X L : List F} {a : Nat} (h : Ph1 k z X L a) (hz : a + z ≤ X.length) : ∃ Q Mid S, L = Q ++ Mid ++ S ∧ a = Q.length ∧ Mid.length = z ∧ ∀ Mid', Stb k Mid Mid' → Ph1 k z X (Q ++ Mid' ++ S) (a + z) := by
  obtain ⟨bs, R, rfl, rfl, h1, rfl⟩ := h
  have hR : z ≤ R.length := by simp at hz; omega
  refine ⟨cat2 bs, R.take z, R.drop z, by rw [List.append_assoc, List.take_append_drop], by rw [h1.len1, h1.len2], by simp; omega, fun Mid' hM => ?_⟩
  refine ⟨bs ++ [(R.take z, Mid')], R.drop z, ?_, ?_, h1.snoc k (by simp; omega) hM, ?_⟩
  · rw [cat1_snoc, List.append_assoc, List.take_append_drop]
  · rw [cat2_snoc]
  · rw [cat1_snoc]; simp; omega
theorem Ph1.fin {z : Nat} {X L : List F} {a : Nat} (h : Ph1 k z X L a) (hz : X.length < a + z) : ∃ Q Mid, L = Q ++ Mid ++ [] ∧ a = Q.length ∧ X.length = a + Mid.length ∧ ∀ Mid', Stb k Mid Mid' → Ph2 k z X (Q ++ Mid' ++ []) := by
  obtain ⟨bs, R, rfl, rfl, h1, rfl⟩ := h
  refine ⟨cat2 bs, R, by simp, by rw [h1.len1, h1.len2], by simp, fun Mid' hM => ⟨bs, R, Mid', rfl, by simp, h1, hM, by simp at hz; omega⟩⟩
theorem Ph2.len {z : Nat} {X L : List F} (h : Ph2 k z X L) : L.length = X.length := by
  obtain ⟨bs, R, R', rfl, rfl, h1, h2, _⟩ := h
  simp [h1.len1, h1.len2, h2.len]
theorem Ph2.done {z : Nat} {X L : List F} (h : Ph2 k z X L) (hz : X.length ≤ z) : Stb k X L := by
  obtain ⟨bs, R, R', rfl, rfl, h1, h2, h3⟩ := h
  have hl := h1.len1
  simp only [List.length_append] at hz
  match bs, h1, hl with
  | [], _, _ => simpa [cat1, cat2] using h2
  | [p], h1, hl =>
    have hp := h1 p (by simp)
    have hR : R = [] := List.length_eq_zero_iff.1 (by simp at hl; omega)
    subst hR
    have hR' : R' = [] := List.length_eq_zero_iff.1 (by have := h2.len; simpa using this)
    subst hR'
    simpa [cat1, cat2] using hp.2
  | p :: q :: bs, _, hl =>
    simp only [List.length_cons, Nat.succ_mul] at hl
    omega
theorem Ph2.pairs {z : Nat} {X L : List F} (h : Ph2 k z X L) : Ph3 k z X L 0 := by
  obtain ⟨bs, R, R', h1, h2, h3, h4, h5⟩ := h
  exact ⟨[], bs, R, R', by simpa [cat1] using h1, by simpa [cat2] using h2, (fun p hp => by simp at hp), h3, h4, h5, rfl⟩
theorem Ph3.len {z : Nat} {X L : List F} {a : Nat} (h : Ph3 k z X L a) : L.length = X.length ∧ a ≤ X.length := by
  obtain ⟨es, bs, R, R', rfl, rfl, h0, h1, h2, _, rfl⟩ := h
  simp only [List.length_append, h1.len1, h1.len2, h2.len, h0.len1, h0.len2]; exact ⟨trivial, by omega⟩
theorem Ph3.go {z : Nat} {X L : List F} {a : Nat} (h : Ph3 k z X L a) (hz : 0 < z) (ha : a + 2 * z ≤ X.length) : ∃ P U V S, L = P ++ U ++ V ++ S ∧ Two k P U V S a (a + z) (a + 2 * z) ∧ Ph3 k z X (P ++ mrg k U V ++ S) (a + 2 * z) := by
  obtain ⟨es, bs, R, R', rfl, rfl, h0, h1, h2, h3, rfl⟩ := h
  have hl := h1.len1
  simp only [List.length_append] at ha
  match bs, h1, hl with
  | [], _, hl => rw [List.length_nil, Nat.zero_mul] at hl; omega
  | [p], _, hl => rw [List.length_singleton, Nat.one_mul] at hl; omega
  | p :: q :: bs, h1, _ =>
    have hp := h1 p (by simp)
    have hq := h1 q (by simp)
    have lp := hp.2.len; have lq := hq.2.len
    refine ⟨cat2 es, p.2, q.2, cat2 bs ++ R', by simp [cat2_cons], ⟨by rw [h0.len1, h0.len2], by omega, by omega, List.length_pos_iff.1 (by omega), List.length_pos_iff.1 (by omega), hp.2.rise, hq.2.rise⟩, ?_⟩
    refine ⟨es ++ [(p.1 ++ q.1, mrg k p.2 q.2)], bs, R, R', by rw [cat1_snoc]; simp [cat1_cons], by rw [cat2_snoc]; simp, h0.snoc k (by simp; omega) (hp.2.mrg k hq.2), fun s hs => h1 s (by simp [hs]), h2, h3, by rw [cat1_snoc]; simp; omega⟩
theorem Ph3.fin {z : Nat} {X L : List F} {a : Nat} (h : Ph3 k z X L a) (hz : 0 < z) (ha : X.length < a + 2 * z) :
    (a + z < X.length → ∃ P U V, L = P ++ U ++ V ++ [] ∧ Two k P U V [] a (a + z) X.length ∧ Ph2 k (2 * z) X (P ++ mrg k U V ++ [])) ∧ (¬ a + z < X.length → Ph2 k (2 * z) X L) := by
  obtain ⟨es, bs, R, R', rfl, rfl, h0, h1, h2, h3, rfl⟩ := h
  have hl := h1.len1
  simp only [List.length_append] at ha ⊢
  match bs, h1, hl with
  | [], _, hl =>
    rw [List.length_nil, Nat.zero_mul] at hl
    refine ⟨fun h => by omega, fun _ => ⟨es, R, R', by simp [cat1], by simp [cat2], h0, h2, by omega⟩⟩
  | [p], h1, hl =>
    have hp := h1 p (by simp)
    have lp := hp.2.len
    have c1 : cat1 [p] = p.1 := by simp [cat1]
    have c2 : cat2 [p] = p.2 := by simp [cat2]
    rw [c1, c2] at *
    refine ⟨fun h => ⟨cat2 es, p.2, R', by simp, ⟨by rw [h0.len1, h0.len2], by omega, by have := h2.len; omega, List.length_pos_iff.1 (by omega), List.length_pos_iff.1 (by have := h2.len; omega), hp.2.rise, h2.rise⟩, es, p.1 ++ R, mrg k p.2 R', by simp, by simp, h0, hp.2.mrg k h2, by simp; omega⟩, fun h => ?_⟩
    have hR : R = [] := List.length_eq_zero_iff.1 (by omega)
    subst hR
    have hR' : R' = [] := List.length_eq_zero_iff.1 (by have := h2.len; simpa using this)
    subst hR'
    exact ⟨es, p.1, p.2, by simp, by simp, h0, hp.2, by omega⟩
  | p :: q :: bs, _, hl =>
    simp only [List.length_cons, Nat.succ_mul] at hl
    omega
end
theorem Srt.trans {E : Type} {X : Enc E} {t : TypeId} {w u v : World} {g cap : Nat} {L M : List E} (h : Srt X t w u g cap L) (k : Srt X t u v g cap M) : Srt X t w v g cap M := ⟨k.lay, h.chg.trans k.chg (fun _ _ x => x)⟩
end Go.Proofs.Ytlbnilendcelkaa
