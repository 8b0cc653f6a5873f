/-
  Transactions over one memory, as a list; the chapter's example.
-/
import Derived.Test.YtafiopjgegmfoaaTSit
namespace Go.Proofs.Ytafiopjgegmfoaa.T
open Go.RowKit Go.Proofs.Ytafiopjgegmfoaa.C
def Has (w0 u : World) (m gm : Nat) (S : M) (l : List (Nat × TX)) : Prop := ∃ p X, Sit w0 u m gm S l.length p X ∧ ∀ j q, l[j]? = some q → p j = q.1 ∧ X j = q.2
section
variable {w0 u u' : World} {m gm j g : Nat} {S S' : M} {l : List (Nat × TX)} {x x' : TX} {v e : Int}
theorem has_set {p : Nat → Nat} {X : Nat → TX} (h : ∀ j q, l[j]? = some q → p j = q.1 ∧ X j = q.2) (hj : l[j]? = some (g, x)) (x' : TX) : ∀ i q, (l.set j (g, x'))[i]? = some q → p i = q.1 ∧ (upd X j x') i = q.2 := fun i q hq => by
  rw [List.getElem?_set] at hq
  split at hq
  · rename_i e
    subst e
    split at hq
    · injection hq with hq
      subst hq
      exact ⟨(h j _ hj).1, upd_same _ _ _⟩
    · cases hq
  · rename_i e
    rw [upd_other _ _ (fun h => e h.symm)]
    exact h i q hq
theorem Has.below (h : Has w0 u m gm S l) (hb : Below u.heap.size u u') : Has w0 u' m gm S l := by
  obtain ⟨p, X, h, k⟩ := h
  exact ⟨p, X, h.below hb, k⟩
theorem Has.drew (h : Has w0 u m gm S l) (q : Nat) : Has w0 (u.drewN q) m gm S l := h.below ⟨rfl, rfl, rfl, Nat.le_refl _, fun _ _ => rfl⟩
theorem Has.bel (h : Has w0 u m gm S l) : Below w0.heap.size w0 u := by
  obtain ⟨p, X, h, k⟩ := h
  exact h.bel
theorem Has.read (h : Has w0 u m gm S l) (hj : l[j]? = some (g, x)) (i : Int) (hi : (Lit.int .i64 i).wf = true) (he : x.read S i = (v, e, S', x')) : Calls Try.prog 13 #[ptr g, .int .i64 i] u fun r u' => r = .returned (.tuple #[.int .i64 v, .int .i64 e]) ∧ Has w0 u' m gm S' (l.set j (g, x')) := by
  obtain ⟨p, X, h, k⟩ := h
  obtain ⟨e1, e2⟩ := k j _ hj
  have c := h.read j (List.getElem?_eq_some_iff.1 hj).1 i hi
  rw [e1, e2, he] at c
  exact c.mono fun r u' ⟨a, b⟩ => ⟨a, p, _, by simpa using b, has_set k hj x'⟩
theorem Has.write (h : Has w0 u m gm S l) (hj : l[j]? = some (g, x)) (i y : Int) (he : x.write S i y = (e, x')) : Calls Try.prog 14 #[ptr g, .int .i64 i, .int .i64 y] u fun r u' => r = .returned (.int .i64 e) ∧ Has w0 u' m gm S (l.set j (g, x')) := by
  obtain ⟨p, X, h, k⟩ := h
  obtain ⟨e1, e2⟩ := k j _ hj
  have c := h.write j (List.getElem?_eq_some_iff.1 hj).1 i y
  rw [e1, e2, he] at c
  exact c.mono fun r u' ⟨a, b⟩ => ⟨a, p, _, by simpa using b, has_set k hj x'⟩
theorem Has.step (h : Has w0 u m gm S l) (hj : l[j]? = some (g, x)) (he : x.step S = (v, e, S', x')) : Calls Try.prog 17 #[ptr g] u fun r u' => r = .returned (.tuple #[.int .u8 v, .int .i64 e]) ∧ Has w0 u' m gm S' (l.set j (g, x')) := by
  obtain ⟨p, X, h, k⟩ := h
  obtain ⟨e1, e2⟩ := k j _ hj
  have c := h.step j (List.getElem?_eq_some_iff.1 hj).1
  rw [e1, e2, he] at c
  exact c.mono fun r u' ⟨a, b⟩ => ⟨a, p, _, by simpa using b, has_set k hj x'⟩
theorem Has.abort (h : Has w0 u m gm S l) (hj : l[j]? = some (g, x)) (he : x.abort S = (e, S', x')) : Calls Try.prog 15 #[ptr g] u fun r u' => r = .returned (.int .i64 e) ∧ Has w0 u' m gm S' (l.set j (g, x')) := by
  obtain ⟨p, X, h, k⟩ := h
  obtain ⟨e1, e2⟩ := k j _ hj
  have c := h.abort j (List.getElem?_eq_some_iff.1 hj).1
  rw [e1, e2, he] at c
  exact c.mono fun r u' ⟨a, b⟩ => ⟨a, p, _, by simpa using b, has_set k hj x'⟩
theorem Has.status (h : Has w0 u m gm S l) (hj : l[j]? = some (g, x)) : Calls Try.prog 16 #[ptr g] u fun r u' => r = .returned (.int .u8 x.st) ∧ u' = u := by
  obtain ⟨p, X, h, k⟩ := h
  obtain ⟨e1, e2⟩ := k j _ hj
  have c := h.status j (List.getElem?_eq_some_iff.1 hj).1
  rw [e1, e2] at c
  exact c
theorem Has.version (h : Has w0 u m gm S l) (hj : l[j]? = some (g, x)) : Calls Try.prog 18 #[ptr g] u fun r u' => r = .returned (.int .i64 (if x.st = 3 then x.ver else 0)) ∧ u' = u := by
  obtain ⟨p, X, h, k⟩ := h
  obtain ⟨e1, e2⟩ := k j _ hj
  have c := h.version j (List.getElem?_eq_some_iff.1 hj).1
  rw [e1, e2] at c
  exact c
theorem Has.begin (h : Has w0 u m gm S l) (o : Int) (ho : 1 ≤ o) (ho2 : o < 9223372036854775808) : Calls Try.prog 10 #[ptr m, .int .i64 o] u fun r u' => ∃ g, r = .returned (.tuple #[ptr g, .int .i64 0]) ∧ Has w0 u' m gm S (l ++ [(g, X0 o S.k)]) := by
  obtain ⟨p, X, h, k⟩ := h
  refine (h.begin o ho ho2).mono fun r u' ⟨g, a, b⟩ => ⟨g, a, _, _, by simpa using b, fun i q hq => ?_⟩
  by_cases hi : i < l.length
  · rw [List.getElem?_append_left hi] at hq
    rw [upd_other _ _ (by omega), upd_other _ _ (by omega)]
    exact k i q hq
  · rw [List.getElem?_append_right (by omega)] at hq
    have e0 : i - l.length = 0 := by
      have := (List.getElem?_eq_some_iff.1 hq).1
      simp at this
      omega
    have ei : i = l.length := by omega
    subst ei
    rw [Nat.sub_self] at hq
    simp at hq
    subst hq
    exact ⟨upd_same _ _ _, upd_same _ _ _⟩
theorem Has.fill (h : Has w0 u m gm S []) (i y : Int) (he : S.fill i (.int .i64 y) = (S', e)) : Calls Try.prog 20 #[ptr m, .int .i64 i, .int .i64 y] u fun r u' => r = .returned (.int .i64 e) ∧ Has w0 u' m gm S' [] := by
  obtain ⟨p, X, h, k⟩ := h
  have c := C.fill_at h.mm.is i y (fun c hc => h.num i c hc)
  have hN := h.num.fill i y
  rw [he] at c hN
  refine c.mono fun r u' ⟨a, b⟩ => ⟨a, p, X, ?_, fun j q hq => by simp at hq⟩
  exact Sit.none (h.mm.to b).1 hN rfl (h.bel.trans b.bel) p X
theorem has_new {n : Nat} {w0 w : World} (hb : Below w0.heap.size w0 w) (h1 : 1 ≤ n) (h2 : n ≤ 1024) : Calls Try.prog 8 #[.int .i64 (n : Int)] w fun r w' => ∃ m gm, r = .returned (.tuple #[ptr m, .int .i64 0]) ∧ Has w0 w' m gm (C.M0 n) [] := by
  refine (C.new_at w n h1 h2).mono fun r w' ⟨m, a, b, c⟩ => ?_
  have hs := hb.size
  have b' : C.IsM 65 81 w' w0.heap.size m (C.M0 n) := ⟨by have := b.hm; omega, b.rt, by obtain ⟨g, hg, q⟩ := b.row; exact ⟨g, by omega, q⟩⟩
  obtain ⟨gm, hM⟩ := MM.of b'
  exact ⟨m, gm, a, fun _ => 0, fun _ => X0 1 0, Sit.none hM (Num.new n) rfl (hb.trans (c.mono hs)) _ _, fun j q hq => by simp at hq⟩
end
/-! ### the chapter's example, plainly -/
def cv (v k o : Int) : Cl := ⟨.int .i64 v, k, o⟩
def xt (R : List (Int × Int)) (st : Int) : TX := ⟨1, 0, ⟨R, [], []⟩, st, [], 0, false⟩
def xu (W : List (Int × Int)) (st : Int) (L : List Stp) (ver : Int) (pub : Bool) : TX := ⟨2, 0, ⟨[], W, []⟩, st, L, ver, pub⟩
def xv (R : List (Int × Int)) (st : Int) (ver : Int) : TX := ⟨3, 1, ⟨R, [], []⟩, st, [], ver, false⟩
theorem srt01 : srt [0, 1] = [0, 1] := by
  unfold srt
  exact List.mergeSort_of_pairwise (by simp)
theorem srt_nil : srt [] = [] := by unfold srt; simp
theorem a0 : (C.M0 2).fill 0 (.int .i64 1) = (⟨[cv 1 0 0, cv 0 0 0], 0⟩, 0) := rfl
theorem a1 : (⟨[cv 1 0 0, cv 0 0 0], 0⟩ : M).fill 1 (.int .i64 1) = (⟨[cv 1 0 0, cv 1 0 0], 0⟩, 0) := rfl
theorem a2 : (xt [] 1).read ⟨[cv 1 0 0, cv 1 0 0], 0⟩ 0 = (1, 0, ⟨[cv 1 0 0, cv 1 0 0], 0⟩, xt [(0, 0)] 1) := rfl
theorem a3 : (xu [] 1 [] 0 false).write ⟨[cv 1 0 0, cv 1 0 0], 0⟩ 0 5 = (0, xu [(0, 5)] 1 [] 0 false) := rfl
theorem a4 : (xu [(0, 5)] 1 [] 0 false).write ⟨[cv 1 0 0, cv 1 0 0], 0⟩ 1 6 = (0, xu [(0, 5), (1, 6)] 1 [] 0 false) := rfl
theorem a5e : (xu [(0, 5), (1, 6)] 1 [] 0 false).ends = [.lock 0, .lock 1, .adv, .pub 0, .pub 1] := by
  unfold TX.ends
  rw [if_neg (by simp [xu])]
  show (srt [0, 1]).map Stp.lock ++ Stp.adv :: ((srt []).map Stp.look ++ (srt [0, 1]).map Stp.pub) = _
  rw [srt01, srt_nil]
  rfl
theorem a5 : (xu [(0, 5), (1, 6)] 1 [] 0 false).step ⟨[cv 1 0 0, cv 1 0 0], 0⟩ = (2, 0, ⟨[cv 1 0 2, cv 1 0 0], 0⟩, xu [(0, 5), (1, 6)] 2 [.lock 1, .adv, .pub 0, .pub 1] 0 false) := by
  unfold TX.step
  rw [if_neg (by simp [xu]), if_pos (show (xu [(0, 5), (1, 6)] 1 [] 0 false).st = 1 from rfl), a5e]
  rfl
theorem a6 : (xu [(0, 5), (1, 6)] 2 [.lock 1, .adv, .pub 0, .pub 1] 0 false).step ⟨[cv 1 0 2, cv 1 0 0], 0⟩ = (2, 0, ⟨[cv 1 0 2, cv 1 0 2], 0⟩, xu [(0, 5), (1, 6)] 2 [.adv, .pub 0, .pub 1] 0 false) := rfl
theorem a7 : (xt [(0, 0)] 1).read ⟨[cv 1 0 2, cv 1 0 2], 0⟩ 1 = (0, 131, ⟨[cv 1 0 2, cv 1 0 2], 0⟩, xt [(0, 0)] 4) := rfl
theorem a8 : (xu [(0, 5), (1, 6)] 2 [.adv, .pub 0, .pub 1] 0 false).step ⟨[cv 1 0 2, cv 1 0 2], 0⟩ = (2, 0, ⟨[cv 1 0 2, cv 1 0 2], 1⟩, xu [(0, 5), (1, 6)] 2 [.pub 0, .pub 1] 1 false) := rfl
theorem a9 : (xu [(0, 5), (1, 6)] 2 [.pub 0, .pub 1] 1 false).step ⟨[cv 1 0 2, cv 1 0 2], 1⟩ = (2, 0, ⟨[cv 5 1 0, cv 1 0 2], 1⟩, xu [(0, 5), (1, 6)] 2 [.pub 1] 1 true) := rfl
theorem a10 : (xu [(0, 5), (1, 6)] 2 [.pub 1] 1 true).step ⟨[cv 5 1 0, cv 1 0 2], 1⟩ = (3, 0, ⟨[cv 5 1 0, cv 6 1 0], 1⟩, xu [(0, 5), (1, 6)] 3 [] 1 true) := rfl
theorem a11 : (xv [] 1 0).read ⟨[cv 5 1 0, cv 6 1 0], 1⟩ 0 = (5, 0, ⟨[cv 5 1 0, cv 6 1 0], 1⟩, xv [(0, 1)] 1 0) := rfl
theorem a12 : (xv [(0, 1)] 1 0).read ⟨[cv 5 1 0, cv 6 1 0], 1⟩ 1 = (6, 0, ⟨[cv 5 1 0, cv 6 1 0], 1⟩, xv [(0, 1), (1, 1)] 1 0) := rfl
theorem a13 : (xv [(0, 1), (1, 1)] 1 0).step ⟨[cv 5 1 0, cv 6 1 0], 1⟩ = (3, 0, ⟨[cv 5 1 0, cv 6 1 0], 1⟩, xv [(0, 1), (1, 1)] 3 1) := rfl
end Go.Proofs.Ytafiopjgegmfoaa.T
