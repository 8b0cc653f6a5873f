/-
  Ranges that change places, blocks that are turned, plainly.
-/
import Derived.Test.YtlbnilendcelkaaInsP
namespace Go.Proofs.Ytlbnilendcelkaa
open Go.RowKit
section
variable {F : Type} (k : F → Int)
def swpN (l : List F) (a b : Nat) : Nat → List F
  | 0 => l
  | i + 1 => swp (swpN l a b i) (a + i) (b + i)
theorem swpN_len (l : List F) (a b n : Nat) : (swpN l a b n).length = l.length := by
  induction n with
  | zero => rfl
  | succ n ih => rw [swpN, swp_len, ih]
theorem swpN_to (P X M Y S : List F) (hl : X.length = Y.length) (i : Nat) (hi : i ≤ X.length) : swpN (P ++ X ++ M ++ Y ++ S) P.length (P.length + X.length + M.length) i = P ++ (Y.take i ++ X.drop i) ++ M ++ (X.take i ++ Y.drop i) ++ S := by
  induction i with
  | zero => simp [swpN]
  | succ i ih =>
    rw [swpN, ih (by omega)]
    have hx : i < X.length := by omega
    have hy : i < Y.length := by omega
    have ex : X.drop i = X[i] :: X.drop (i + 1) := List.drop_eq_getElem_cons hx
    have ey : Y.drop i = Y[i] :: Y.drop (i + 1) := List.drop_eq_getElem_cons hy
    have tx : X.take (i + 1) = X.take i ++ [X[i]] := List.take_succ_eq_append_getElem hx
    have ty : Y.take (i + 1) = Y.take i ++ [Y[i]] := List.take_succ_eq_append_getElem hy
    rw [ex, ey, tx, ty]
    have h := swp_mid (P ++ Y.take i) (X.drop (i + 1) ++ M ++ X.take i) (Y.drop (i + 1) ++ S) X[i] Y[i]
    have e1 : (P ++ Y.take i).length = P.length + i := by rw [List.length_append, List.length_take]; omega
    have e2 : (X.drop (i + 1) ++ M ++ X.take i).length = X.length - 1 + M.length := by simp only [List.length_append, List.length_drop, List.length_take]; omega
    rw [e1, e2, show P.length + i + 1 + (X.length - 1 + M.length) = P.length + X.length + M.length + i by omega] at h
    simp only [List.append_assoc, List.cons_append, List.nil_append] at h ⊢
    exact h
theorem swpN_all (P X M Y S : List F) (hl : X.length = Y.length) {a b n : Nat} (ha : a = P.length) (hb : b = P.length + X.length + M.length) (hn : n = X.length) : swpN (P ++ X ++ M ++ Y ++ S) a b n = P ++ Y ++ M ++ X ++ S := by
  subst ha hb hn
  rw [swpN_to P X M Y S hl _ (Nat.le_refl _), List.take_length, List.drop_length, hl, List.take_length, List.drop_length]
  simp
/-- rotating, plainly: T is where it goes -/
def RotR (m i j : Nat) (T L : List F) : Prop := 0 < i ∧ 0 < j ∧ ∃ P U V S, L = P ++ U ++ V ++ S ∧ P.length + U.length = m ∧ U.length = i ∧ V.length = j ∧ P ++ V ++ U ++ S = T
theorem RotR.gt {m i j : Nat} {T L : List F} (h : RotR m i j T L) (hij : j < i) : RotR m (i - j) j T (swpN L (m - i) m j) ∧ i ≤ m ∧ m + j ≤ L.length := by
  obtain ⟨h1, h2, P, U, V, S, rfl, e1, e2, e3, rfl⟩ := h
  refine ⟨⟨by omega, h2, P ++ V, U.drop j, U.take j, S, ?_, ?_, ?_, ?_, ?_⟩, by omega, by simp; omega⟩
  · have h := swpN_all P (U.take j) (U.drop j) V S (by simp; omega) (a := m - i) (b := m) (n := j) (by omega) (by simp; omega) (by simp; omega)
    rw [show P ++ U.take j ++ U.drop j ++ V ++ S = P ++ U ++ V ++ S by rw [List.append_assoc P, List.take_append_drop]] at h
    rw [h]
  · simp; omega
  · simp; omega
  · simp; omega
  · rw [List.append_assoc (P ++ V), List.take_append_drop]
theorem RotR.lt {m i j : Nat} {T L : List F} (h : RotR m i j T L) (hij : i < j) : RotR m i (j - i) T (swpN L (m - i) (m + j - i) i) ∧ i ≤ m ∧ m + j ≤ L.length := by
  obtain ⟨h1, h2, P, U, V, S, rfl, e1, e2, e3, rfl⟩ := h
  refine ⟨⟨h1, by omega, P, V.drop (j - i), V.take (j - i), U ++ S, ?_, ?_, ?_, ?_, ?_⟩, by omega, by simp; omega⟩
  · have h := swpN_all P U (V.take (j - i)) (V.drop (j - i)) S (by simp; omega) (a := m - i) (b := m + j - i) (n := i) (by omega) (by simp; omega) (by omega)
    rw [show P ++ U ++ V.take (j - i) ++ V.drop (j - i) ++ S = P ++ U ++ V ++ S by rw [List.append_assoc (P ++ U), List.take_append_drop]] at h
    rw [h]; simp
  · simp; omega
  · simp; omega
  · simp; omega
  · rw [List.append_assoc P, List.take_append_drop]; simp
theorem RotR.eq {m i : Nat} {T L : List F} (h : RotR m i i T L) : swpN L (m - i) m i = T ∧ i ≤ m ∧ m + i ≤ L.length := by
  obtain ⟨h1, h2, P, U, V, S, rfl, e1, e2, e3, rfl⟩ := h
  refine ⟨?_, by omega, by simp; omega⟩
  have h := swpN_all P U [] V S (by omega) (a := m - i) (b := m) (n := i) (by omega) (by simp; omega) (by omega)
  simpa using h
theorem RotR.start (P U V S : List F) (h1 : U ≠ []) (h2 : V ≠ []) : RotR (P.length + U.length) U.length V.length (P ++ V ++ U ++ S) (P ++ U ++ V ++ S) :=
  ⟨List.length_pos_iff.2 h1, List.length_pos_iff.2 h2, P, U, V, S, rfl, rfl, rfl, rfl, rfl⟩
/-- a place is looked for, by halves: p holds ahead of i, not from j on -/
structure Fnd (p : Nat → Prop) (lo hi i j : Nat) : Prop where
  a : lo ≤ i
  b : i ≤ j
  c : j ≤ hi
  up : ∀ c, lo ≤ c → c < i → p c
  dn : ∀ c, j ≤ c → c < hi → ¬ p c
def Fal (p : Nat → Prop) (lo hi : Nat) : Prop := ∀ c c', lo ≤ c → c ≤ c' → c' < hi → p c' → p c
theorem Fnd.start {p : Nat → Prop} {lo hi : Nat} (h : lo ≤ hi) : Fnd p lo hi lo hi := ⟨Nat.le_refl _, h, Nat.le_refl _, fun c h1 h2 => by omega, fun c h1 h2 => by omega⟩
theorem Fnd.hi {p : Nat → Prop} {lo hi i j h : Nat} (f : Fnd p lo hi i j) (hm : Fal p lo hi) (h1 : i ≤ h) (h2 : h < j) (hp : p h) : Fnd p lo hi (h + 1) j :=
  ⟨by have := f.a; omega, by omega, f.c, fun c c1 c2 => hm c h c1 (by omega) (by have := f.c; omega) hp, f.dn⟩
theorem Fnd.lo {p : Nat → Prop} {lo hi i j h : Nat} (f : Fnd p lo hi i j) (hm : Fal p lo hi) (h1 : i ≤ h) (h2 : h < j) (hp : ¬ p h) : Fnd p lo hi i h :=
  ⟨f.a, by omega, by have := f.c; omega, f.up, fun c c1 c2 hc => hp (hm h c (by have := f.a; omega) c1 c2 hc)⟩
structure Two (P U V S : List F) (a m b : Nat) : Prop where
  ha : a = P.length
  hm : m = a + U.length
  hb : b = m + V.length
  u1 : U ≠ []
  v1 : V ≠ []
  ru : Rise k U
  rv : Rise k V
theorem Two.up {P U V S : List F} {a m b : Nat} (h : Two k P U V S a m b) : a < m ∧ m < b := by
  have := List.length_pos_iff.2 h.u1
  have := List.length_pos_iff.2 h.v1
  have := h.hm; have := h.hb
  omega
theorem Two.len {P U V S : List F} {a m b : Nat} (h : Two k P U V S a m b) : b ≤ (P ++ U ++ V ++ S).length := by have := h.ha; have := h.hm; have := h.hb; simp; omega
theorem Two.getU {P U V S : List F} {a m b : Nat} (h : Two k P U V S a m b) (c : Nat) (h1 : a ≤ c) (h2 : c < m) : (P ++ U ++ V ++ S)[c]? = U[c - a]? := by
  have := h.ha; have := h.hm
  rw [List.append_assoc, List.append_assoc, List.getElem?_append_right (by omega), List.getElem?_append_left (by omega), ← h.ha]
theorem Two.getV {P U V S : List F} {a m b : Nat} (h : Two k P U V S a m b) (c : Nat) (h1 : m ≤ c) (h2 : c < b) : (P ++ U ++ V ++ S)[c]? = V[c - m]? := by
  have := h.ha; have := h.hm; have := h.hb
  rw [List.append_assoc, List.getElem?_append_right (by simp; omega), List.getElem?_append_left (by simp; omega)]
  congr 1; simp; omega
theorem rise_get {l : List F} (h : Rise k l) {i j : Nat} {x y : F} (hij : i ≤ j) (hi : l[i]? = some x) (hj : l[j]? = some y) : k x ≤ k y := by
  obtain ⟨h1, rfl⟩ := List.getElem?_eq_some_iff.1 hi
  obtain ⟨h2, rfl⟩ := List.getElem?_eq_some_iff.1 hj
  rcases Nat.lt_or_ge i j with h3 | h3
  · exact List.pairwise_iff_getElem.1 h i j h1 h2 h3
  · have : i = j := by omega
    subst this; exact Int.le_refl _
theorem get_ex {l : List F} {c : Nat} (h : c < l.length) : ∃ x, l[c]? = some x := ⟨l[c], by simp [h]⟩
/-- the first case: one ahead of many -/
theorem Two.one {P V S : List F} {x : F} {a m b i : Nat} (h : Two k P [x] V S a m b) (f : Fnd (fun c => ∀ y, (P ++ [x] ++ V ++ S)[c]? = some y → k y < k x) m b i i) : ∃ V1 V2, V = V1 ++ V2 ∧ i = m + V1.length ∧ mrg k [x] V = V1 ++ x :: V2 := by
  have h1 := h.hm; have h2 := h.hb; have h3 := f.a; have h4 := f.c
  refine ⟨V.take (i - m), V.drop (i - m), by rw [List.take_append_drop], by simp; omega, ?_⟩
  have e : mrg k [x] V = mrg k [x] (V.take (i - m) ++ V.drop (i - m)) := by rw [List.take_append_drop]
  rw [e]
  refine mrg_first k _ _ x (by rw [List.take_append_drop]; exact h.rv) (fun y hy => ?_) (fun y hy => ?_)
  · obtain ⟨j, hj, rfl⟩ := List.getElem_of_mem hy
    simp at hj
    refine f.up (m + j) (by omega) (by omega) _ ?_
    rw [h.getV k _ (by omega) (by omega), show m + j - m = j by omega]
    simp
  · obtain ⟨j, hj, rfl⟩ := List.getElem_of_mem hy
    simp at hj
    have := f.dn (i + j) (by omega) (by omega)
    rw [Classical.not_forall] at this
    obtain ⟨z, hz⟩ := this
    rw [Classical.not_imp] at hz
    have hz1 := hz.1
    rw [h.getV k _ (by omega) (by omega), show i + j - m = i - m + j by omega] at hz1
    obtain ⟨_, hz2⟩ := List.getElem?_eq_some_iff.1 hz1
    simp only [List.getElem_drop]
    rw [hz2]; omega
theorem Two.fal1 {P V S : List F} {x : F} {a m b : Nat} (h : Two k P [x] V S a m b) : Fal (fun c => ∀ y, (P ++ [x] ++ V ++ S)[c]? = some y → k y < k x) m b := fun c c' h1 h2 h3 hp y hy => by
  obtain ⟨z, hz⟩ := get_ex (l := P ++ [x] ++ V ++ S) (c := c') (by have := h.len; omega)
  have h4 := hp z hz
  rw [h.getV k _ h1 (by omega)] at hy
  rw [h.getV k _ (by omega) h3] at hz
  have := rise_get k h.rv (by omega : c - m ≤ c' - m) hy hz
  omega
theorem Two.last {P U S : List F} {y : F} {a m b i : Nat} (h : Two k P U [y] S a m b) (f : Fnd (fun c => ∀ x, (P ++ U ++ [y] ++ S)[c]? = some x → k x ≤ k y) a m i i) : ∃ U1 U2, U = U1 ++ U2 ∧ i = a + U1.length ∧ mrg k U [y] = U1 ++ y :: U2 := by
  have h1 := h.hm; have h2 := h.hb; have h3 := f.a; have h4 := f.c; have h5 := h.ha
  refine ⟨U.take (i - a), U.drop (i - a), by rw [List.take_append_drop], by simp; omega, ?_⟩
  have e : mrg k U [y] = mrg k (U.take (i - a) ++ U.drop (i - a)) [y] := by rw [List.take_append_drop]
  rw [e]
  refine mrg_last k _ _ y (by rw [List.take_append_drop]; exact h.ru) (fun x hx => ?_) (fun x hx => ?_)
  · obtain ⟨j, hj, rfl⟩ := List.getElem_of_mem hx
    simp at hj
    refine f.up (a + j) (by omega) (by omega) _ ?_
    rw [h.getU k _ (by omega) (by omega), show a + j - a = j by omega]
    simp
  · obtain ⟨j, hj, rfl⟩ := List.getElem_of_mem hx
    simp at hj
    have := f.dn (i + j) (by omega) (by omega)
    rw [Classical.not_forall] at this
    obtain ⟨z, hz⟩ := this
    rw [Classical.not_imp] at hz
    have hz1 := hz.1
    rw [h.getU k _ (by omega) (by omega), show i + j - a = i - a + j by omega] at hz1
    obtain ⟨_, hz2⟩ := List.getElem?_eq_some_iff.1 hz1
    simp only [List.getElem_drop]
    rw [hz2]; omega
theorem Two.fal2 {P U S : List F} {y : F} {a m b : Nat} (h : Two k P U [y] S a m b) : Fal (fun c => ∀ x, (P ++ U ++ [y] ++ S)[c]? = some x → k x ≤ k y) a m := fun c c' h1 h2 h3 hp x hx => by
  obtain ⟨z, hz⟩ := get_ex (l := P ++ U ++ [y] ++ S) (c := c') (by have := h.len; have := h.up; omega)
  have h4 := hp z hz
  rw [h.getU k _ h1 (by omega)] at hx
  rw [h.getU k _ (by omega) h3] at hz
  have := rise_get k h.ru (by omega : c - a ≤ c' - a) hx hz
  omega
/-- one moves on, from kk on -/
def Mvu (P V1 R : List F) (x : F) (kk : Nat) (L : List F) : Prop := ∃ A B, V1 = A ++ B ∧ kk = P.length + A.length ∧ L = P ++ A ++ x :: (B ++ R)
theorem Mvu.start (P V1 R : List F) (x : F) : Mvu P V1 R x P.length (P ++ x :: (V1 ++ R)) := ⟨[], V1, rfl, by simp, by simp⟩
theorem Mvu.go {P V1 R L : List F} {x : F} {kk : Nat} (h : Mvu P V1 R x kk L) (hk : kk < P.length + V1.length) : (∃ z, L[kk]? = some x ∧ L[kk + 1]? = some z) ∧ Mvu P V1 R x (kk + 1) (swp L kk (kk + 1)) := by
  obtain ⟨A, B, rfl, rfl, rfl⟩ := h
  match B, hk with
  | [], hk => simp at hk
  | z :: B, _ =>
    have e : P ++ A ++ x :: (z :: B ++ R) = (P ++ A) ++ x :: ([] ++ z :: (B ++ R)) := by simp
    have hs := swp_mid (P ++ A) [] (B ++ R) x z
    rw [show (P ++ A).length + 1 + ([] : List F).length = P.length + A.length + 1 by simp, show (P ++ A).length = P.length + A.length by simp] at hs
    refine ⟨⟨z, ?_, ?_⟩, A ++ [z], B, by simp, by simp; omega, ?_⟩
    · rw [show P.length + A.length = (P ++ A).length by simp]; simp
    · rw [show P.length + A.length = (P ++ A).length by simp, List.getElem?_append_right (by omega), show (P ++ A).length + 1 - (P ++ A).length = 1 by omega]; simp
    · rw [e, hs]; simp
theorem Mvu.done {P V1 R L : List F} {x : F} {kk : Nat} (h : Mvu P V1 R x kk L) (hk : P.length + V1.length ≤ kk) : L = P ++ (V1 ++ x :: R) := by
  obtain ⟨A, B, rfl, rfl, rfl⟩ := h
  have : B = [] := List.length_eq_zero_iff.1 (by simp at hk; omega)
  subst this; simp
def Mvd (P U2 R : List F) (y : F) (kk : Nat) (L : List F) : Prop := ∃ A B, U2 = A ++ B ∧ kk = P.length + A.length ∧ L = P ++ A ++ y :: (B ++ R)
theorem Mvd.start (P U2 R : List F) (y : F) : Mvd P U2 R y (P.length + U2.length) (P ++ U2 ++ y :: R) := ⟨U2, [], by simp, rfl, rfl⟩
theorem Mvd.go {P U2 R L : List F} {y : F} {kk : Nat} (h : Mvd P U2 R y (kk + 1) L) (hk : P.length ≤ kk) : (∃ z, L[kk]? = some z ∧ L[kk + 1]? = some y) ∧ Mvd P U2 R y kk (swp L (kk + 1) kk) := by
  obtain ⟨A, B, rfl, h2, rfl⟩ := h
  have hA : A ≠ [] := by intro e; subst e; simp at h2; omega
  obtain ⟨A', z, rfl⟩ : ∃ A' z, A = A' ++ [z] := ⟨A.dropLast, A.getLast hA, (List.dropLast_concat_getLast hA).symm⟩
  have hkk : kk = (P ++ A').length := by simp at h2 ⊢; omega
  have e : P ++ (A' ++ [z]) ++ y :: (B ++ R) = (P ++ A') ++ z :: ([] ++ y :: (B ++ R)) := by simp
  have hs := swp_mid (P ++ A') [] (B ++ R) z y
  rw [show (P ++ A').length + 1 + ([] : List F).length = kk + 1 by simp at hkk ⊢; omega, ← hkk] at hs
  refine ⟨⟨z, ?_, ?_⟩, A', z :: B, by simp, by simp at hkk ⊢; omega, ?_⟩
  · rw [e, hkk]; simp
  · rw [e, hkk, List.getElem?_append_right (by omega), show (P ++ A').length + 1 - (P ++ A').length = 1 by omega]; simp
  · rw [swp_comm _ _ _ (by omega), e, hs]; simp
theorem Mvd.done {P U2 R L : List F} {y : F} {kk : Nat} (h : Mvd P U2 R y kk L) (hk : kk ≤ P.length) : L = P ++ y :: (U2 ++ R) := by
  obtain ⟨A, B, rfl, rfl, rfl⟩ := h
  have : A = [] := List.length_eq_zero_iff.1 (by omega)
  subst this; simp
/-- the third case: where the two are cut -/
def Sym (L : List F) (n : Nat) (c : Nat) : Prop := ∀ x y, L[c]? = some x → L[n - 1 - c]? = some y → k x ≤ k y
structure Ctr (a m b mid n s r : Nat) : Prop where
  h1 : mid = (a + b) / 2
  h2 : n = mid + m
  h3 : (mid < m ∧ s + b = n ∧ r = mid) ∨ (m ≤ mid ∧ s = a ∧ r = m)
theorem Ctr.le {a m b mid n s r : Nat} (h : Ctr a m b mid n s r) (h1 : a < m) (h2 : m < b) : a ≤ s ∧ s ≤ r ∧ r ≤ m ∧ r ≤ mid := by
  have := h.h1; have := h.h2
  rcases h.h3 with h3 | h3 <;> omega
theorem Ctr.in {a m b mid n s r c : Nat} (h : Ctr a m b mid n s r) (_h1 : a < m) (_h2 : m < b) (hs : s ≤ c) (hr : c < r) : a ≤ c ∧ c < m ∧ m ≤ n - 1 - c ∧ n - 1 - c < b ∧ c + 1 ≤ n := by
  have := h.h1; have := h.h2
  rcases h.h3 with h3 | h3 <;> omega
theorem Two.fal3 {P U V S : List F} {a m b mid n s r : Nat} (h : Two k P U V S a m b) (hc : Ctr a m b mid n s r) : Fal (Sym k (P ++ U ++ V ++ S) n) s r := fun c c' h1 h2 h3 hp x y hx hy => by
  obtain ⟨ha, hb⟩ := h.up
  have i1 := hc.in ha hb h1 (by omega : c < r)
  have i2 := hc.in ha hb (by omega : s ≤ c') h3
  obtain ⟨x', hx'⟩ := get_ex (l := P ++ U ++ V ++ S) (c := c') (by have := h.len; omega)
  obtain ⟨y', hy'⟩ := get_ex (l := P ++ U ++ V ++ S) (c := n - 1 - c') (by have := h.len; omega)
  have h4 := hp x' y' hx' hy'
  rw [h.getU k _ (by omega) (by omega)] at hx hx'
  rw [h.getV k _ (by omega) (by omega)] at hy hy'
  have e1 := rise_get k h.ru (by omega : c - a ≤ c' - a) hx hx'
  have e2 := rise_get k h.rv (by omega : n - 1 - c' - m ≤ n - 1 - c - m) hy' hy
  omega
theorem Two.cut {P U V S : List F} {a m b mid n s r t : Nat} (h : Two k P U V S a m b) (hc : Ctr a m b mid n s r) (f : Fnd (Sym k (P ++ U ++ V ++ S) n) s r t t) : ∃ U1 U2 V1 V2, U = U1 ++ U2 ∧ V = V1 ++ V2 ∧ t = a + U1.length ∧ n = t + (m + V1.length) ∧ mid = t + V1.length ∧ mrg k U V = mrg k U1 V1 ++ mrg k U2 V2 := by
  obtain ⟨ha, hb⟩ := h.up
  have hl := hc.le ha hb
  have f1 := f.a; have f2 := f.c
  have g1 := h.ha; have g2 := h.hm; have g3 := h.hb
  have q1 := hc.h1; have q2 := hc.h2
  have ht : t ≤ mid := by omega
  have he : m ≤ n - t ∧ n - t ≤ b := by rcases hc.h3 with h3 | h3 <;> omega
  have ltU : (U.take (t - a)).length = t - a := by simp; omega
  have ltV : (V.take (n - t - m)).length = n - t - m := by simp; omega
  refine ⟨U.take (t - a), U.drop (t - a), V.take (n - t - m), V.drop (n - t - m), by rw [List.take_append_drop], by rw [List.take_append_drop], by omega, by omega, by omega, ?_⟩
  have e : mrg k U V = mrg k (U.take (t - a) ++ U.drop (t - a)) (V.take (n - t - m) ++ V.drop (n - t - m)) := by rw [List.take_append_drop, List.take_append_drop]
  rw [e]
  refine mrg_split k _ _ _ _ (by rw [List.take_append_drop]; exact h.ru) (by rw [List.take_append_drop]; exact h.rv) (fun x hx y hy => ?_) (fun y hy x hx => ?_)
  · obtain ⟨i, hi, rfl⟩ := List.getElem_of_mem hx
    obtain ⟨j, hj, rfl⟩ := List.getElem_of_mem hy
    simp at hi hj
    have hs : s ≤ t - 1 := by rcases hc.h3 with h3 | h3 <;> omega
    have hp := f.up (t - 1) hs (by omega)
    have i1 := hc.in ha hb hs (by omega : t - 1 < r)
    obtain ⟨x', hx'⟩ := get_ex (l := P ++ U ++ V ++ S) (c := t - 1) (by have := h.len; omega)
    obtain ⟨y', hy'⟩ := get_ex (l := P ++ U ++ V ++ S) (c := n - 1 - (t - 1)) (by have := h.len; omega)
    have h4 := hp x' y' hx' hy'
    rw [h.getU k _ (by omega) (by omega)] at hx'
    rw [h.getV k _ (by omega) (by omega)] at hy'
    have e1 := rise_get k h.ru (by omega : i ≤ t - 1 - a) (show U[i]? = some U[i] from by simp) hx'
    have e2 := rise_get k h.rv (by omega : n - 1 - (t - 1) - m ≤ n - t - m + j) hy' (show V[n - t - m + j]? = some V[n - t - m + j] from by simp)
    simp only [List.getElem_take, List.getElem_drop]
    omega
  · obtain ⟨i, hi, rfl⟩ := List.getElem_of_mem hx
    obtain ⟨j, hj, rfl⟩ := List.getElem_of_mem hy
    simp at hi hj
    have hr : t < r := by rcases hc.h3 with h3 | h3 <;> omega
    have hp := f.dn t (Nat.le_refl _) hr
    have i1 := hc.in ha hb f1 hr
    unfold Sym at hp
    rw [Classical.not_forall] at hp
    obtain ⟨x', hp⟩ := hp
    rw [Classical.not_forall] at hp
    obtain ⟨y', hp⟩ := hp
    rw [Classical.not_imp, Classical.not_imp] at hp
    obtain ⟨hx', hy', h4⟩ := hp
    rw [h.getU k _ (by omega) (by omega)] at hx'
    rw [h.getV k _ (by omega) (by omega)] at hy'
    have e1 := rise_get k h.ru (by omega : t - a ≤ t - a + i) hx' (show U[t - a + i]? = some U[t - a + i] from by simp)
    have e2 := rise_get k h.rv (by omega : j ≤ n - 1 - t - m) (show V[j]? = some V[j] from by simp) hy'
    simp only [List.getElem_take, List.getElem_drop]
    omega
end
end Go.Proofs.Ytlbnilendcelkaa
