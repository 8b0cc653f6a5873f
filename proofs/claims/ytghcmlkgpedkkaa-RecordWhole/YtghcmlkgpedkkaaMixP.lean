/-
  A mix of two groups' sectors, written over sector by sector: no walk here.
-/
import Derived.Test.YtghcmlkgpedkkaaAny
import Derived.Test.YtghcmlkgpedkkaaOver
namespace Go.Proofs.Ytghcmlkgpedkkaa

/-- 512 noughts -/
def zsec : List UInt8 := List.replicate 512 0
theorem zsec_length : zsec.length = 512 := List.length_replicate
theorem zsec_get (i : Nat) (h : i < 512) : zsec[i]'(by rw [zsec_length]; exact h) = 0 := List.getElem_replicate _
theorem zsec_take : zsec.take 8 = List.replicate 8 0 := by
  unfold zsec
  rw [List.take_replicate]
  rfl
/-- L's sectors, some of them the other's or noughts; one at least, if q -/
structure MixP (L M X : List (List UInt8)) (q : Prop) : Prop where
  len : X.length = L.length
  l4 : ∀ x ∈ X, x.length = 4096
  secs : ∀ b (h : b < X.length) (x : Fin 8), sec X[b] x.val = sec (L[b]'(by omega)) x.val ∨ (∃ h' : b < M.length, sec X[b] x.val = sec M[b] x.val) ∨ (sec X[b] x.val).take 8 = List.replicate 8 0
  some : q → ∃ b, ∃ h : b < X.length, ∃ x : Fin 8, (∃ h' : b < M.length, sec X[b] x.val = sec M[b] x.val) ∨ (sec X[b] x.val).take 8 = List.replicate 8 0
theorem MixP.start {L M : List (List UInt8)} (h : ∀ x ∈ L, x.length = 4096) : MixP L M L False := ⟨rfl, h, fun _ _ _ => .inl rfl, fun h => h.elim⟩
/-- what a sector is written over with -/
def secT (q : Bool) (M : List (List UInt8)) (b s : Nat) : List UInt8 := if q = true then zsec else (M[b]?.map fun m => sec m s).getD zsec
theorem secT_length (q : Bool) (M : List (List UInt8)) (b s : Nat) (hM : ∀ x ∈ M, x.length = 4096) (hs : s < 8) : (secT q M b s).length = 512 := by
  unfold secT
  split
  · exact zsec_length
  · cases h : M[b]? with
    | none => exact zsec_length
    | some m => exact sec_length m s (hM m (List.mem_of_getElem? h)) hs
theorem MixP.step {L M X : List (List UInt8)} {p q : Prop} (h : MixP L M X p) (hM : ∀ x ∈ M, x.length = 4096) (z : Bool) (b s : Nat) (hb : b < X.length) (hs : s < 8) : MixP L M (X.modify b fun x => over x (s * 512) (secT z M b s)) q := by
  have hT := secT_length z M b s hM hs
  have hlen : (X.modify b fun x => over x (s * 512) (secT z M b s)).length = X.length := by simp
  have hkind : (∃ h' : b < M.length, secT z M b s = sec M[b] s) ∨ (secT z M b s).take 8 = List.replicate 8 0 := by
    unfold secT
    split
    · exact .inr zsec_take
    · cases hm : M[b]? with
      | none => exact .inr zsec_take
      | some m =>
        obtain ⟨h1, h2⟩ := List.getElem?_eq_some_iff.1 hm
        exact .inl ⟨h1, by simp [h2]⟩
  have at_b : (X.modify b fun x => over x (s * 512) (secT z M b s))[b]'(by rw [hlen]; exact hb) = over X[b] (s * 512) (secT z M b s) := by simp
  refine ⟨by rw [hlen]; exact h.len, fun x hx => ?_, fun c hc x => ?_, fun _ => ⟨b, by rw [hlen]; exact hb, ⟨s, hs⟩, ?_⟩⟩
  · obtain ⟨i, hi, rfl⟩ := List.getElem_of_mem hx
    have hi' : i < X.length := by rw [hlen] at hi; exact hi
    rw [List.getElem_modify]
    have := h.l4 X[i] (List.getElem_mem hi')
    split
    · rw [over_length _ _ _ (by omega)]
      exact this
    · exact this
  · have hc' : c < X.length := by rw [hlen] at hc; exact hc
    by_cases e : b = c
    · subst e
      rw [at_b, sec_over _ _ _ _ (h.l4 _ (List.getElem_mem hb)) hT hs]
      by_cases e2 : x.val = s
      · rw [if_pos e2]
        rcases hkind with ⟨h', k⟩ | k
        · refine .inr (.inl ⟨h', ?_⟩)
          rw [k, e2]
        · exact .inr (.inr k)
      · rw [if_neg e2]
        exact h.secs b hb x
    · have e3 : (X.modify b fun x => over x (s * 512) (secT z M b s))[c] = X[c] := by
        rw [List.getElem_modify, if_neg e]
      rw [e3]
      exact h.secs c hc' x
  · rw [at_b, sec_over _ _ _ _ (h.l4 _ (List.getElem_mem hb)) hT hs, if_pos rfl]
    exact hkind
theorem modify_nil (X : List (List UInt8)) (b o : Nat) : (X.modify b fun x => over x o []) = X := by
  refine List.ext_getElem? (fun i => ?_)
  rw [List.getElem?_modify]
  cases X[i]? with
  | none => rfl
  | some x => simp [over_none]
theorem byte_step {qs ps : List GG} {T : List UInt8} {b o j : Nat} {v : UInt8} (h : qs.map GG.xs = (ps.map GG.xs).modify b fun x => over x o (T.take (j - o))) (h1 : o ≤ j) (h2 : j < o + 512) (hT : T.length = 512)
    (h4 : ∀ x ∈ ps.map GG.xs, o + 512 ≤ x.length) (hv : T[j - o]? = some v) : (byteP qs b j v).map GG.xs = (ps.map GG.xs).modify b fun x => over x o (T.take (j + 1 - o)) := by
  obtain ⟨i, rfl⟩ : ∃ i, j = o + i := ⟨j - o, by omega⟩
  have e1 : o + i - o = i := by omega
  have e2 : o + i + 1 - o = i + 1 := by omega
  rw [e1] at h hv
  rw [e2, byteP_x, h]
  obtain ⟨hi, rfl⟩ := List.getElem?_eq_some_iff.1 hv
  exact modify_step (ps.map GG.xs) T b o i h4 hT (by omega)
theorem secT_nought {q : Bool} {M : List (List UInt8)} {b s : Nat} (h : q = true ∨ M.length ≤ b) (i : Nat) (hi : i < 512) : (secT q M b s)[i]? = some 0 := by
  have : secT q M b s = zsec := by
    unfold secT
    rcases h with h | h
    · rw [if_pos h]
    · rw [List.getElem?_eq_none h]
      simp
  rw [this]
  unfold zsec
  rw [List.getElem?_replicate, if_pos hi]
theorem secT_other {M : List (List UInt8)} {b s : Nat} (hb : b < M.length) (i : Nat) (hi : i < 512) : (secT false M b s)[i]? = M[b][s * 512 + i]? := by
  have : secT false M b s = sec M[b] s := by
    unfold secT
    simp [hb]
  rw [this, sec_get, if_pos hi]
end Go.Proofs.Ytghcmlkgpedkkaa
