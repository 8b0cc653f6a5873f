/-
  A group is taken only if all of it was written: no walk here.
-/
import Derived.Test.YtghcmlkgpedkkaaGrp
namespace Go.Proofs.Ytghcmlkgpedkkaa

theorem mark_inj {e s e' s' : Nat} (he : e ≤ 8388608) (hs : s ≤ 549755813888) (he' : e' ≤ 8388608) (hs' : s' ≤ 549755813888) (h : mark e s = mark e' s') : e = e' ∧ s = s' := by
  have h1 := congrArg beNat h
  rw [be_mark he hs, be_mark he' hs'] at h1
  unfold stampN at h1
  omega
/-- no noughts bear a stamp -/
theorem mark_ne {e s : Nat} (he : 1 ≤ e) (he2 : e ≤ 8388608) (hs : s ≤ 549755813888) : mark e s ≠ List.replicate 8 0 := fun h => by
  have h1 := congrArg beNat h
  rw [be_mark he2 hs] at h1
  have h2 : beNat (List.replicate 8 0) = 0 := by decide
  rw [h2] at h1
  unfold stampN at h1
  omega

/-- every sector of a group bears the stamp that it says -/
theorem grp_marks {ls : List (List UInt8)} (h : isGrp ls) (b : Nat) (hb : b < ls.length) (x : Fin 8) : (sec ls[b] x.val).take 8 = mark (saidE (ls[0]?.getD [])) (saidS (ls[0]?.getD [])) := by
  obtain ⟨h0, hh, hn, hs⟩ := h
  cases b with
  | zero =>
    have e0 : ls[0] = ls[0]?.getD [] := by simp [h0]
    rw [e0]
    obtain ⟨h1, h2, h3⟩ := hh
    have hlen : ∀ y ∈ saidEs (ls[0]?.getD []), y.2.length = 64 := by
      intro y hy
      unfold saidEs at hy
      split at hy
      · unfold entsOf at hy
        obtain ⟨i, hi, rfl⟩ := List.mem_map.1 hy
        have hi' : i < cntOf (bodyX (ls[0]?.getD [])) := by simpa using hi
        have hbl := bodyX_length _ h1
        unfold entOf
        show ((List.drop (8 + i * 66) _).take 64).length = 64
        rw [List.length_take, List.length_drop, hbl]
        omega
      · cases hy
    have hbd : (bodyB (saidEs (ls[0]?.getD []))).length = 4032 := bodyB_length _ hlen (by have := h2.2.1; simpa using this.2)
    have h4 := sec_head (e := saidE (ls[0]?.getD [])) (s := saidS (ls[0]?.getD [])) hbd x
    rw [← h3] at h4
    rw [h4]
    exact List.take_left' (mark_length _ _)
  | succ j =>
    have hj : j < (saidEs (ls[0]?.getD [])).length := by omega
    have h1 := hs j hj
    have e1 : ls[j + 1]?.getD [] = ls[j + 1] := by simp [hb]
    rw [e1] at h1
    unfold stampedB allMarked at h1
    simp only [Bool.and_eq_true, List.all_eq_true] at h1
    have h2 := h1.2.2 x (List.mem_finRange x)
    simpa using h2
theorem grp_ok {ls : List (List UInt8)} (h : isGrp ls) : okStamp (saidE (ls[0]?.getD [])) (saidS (ls[0]?.getD [])) = true := h.2.1.2.1.1
theorem grp_len {ls : List (List UInt8)} (h : isGrp ls) (b : Nat) (hb : b < ls.length) : ls[b].length = 4096 := by
  obtain ⟨h0, hh, hn, hs⟩ := h
  cases b with
  | zero =>
    have e0 : ls[0] = ls[0]?.getD [] := by simp [h0]
    rw [e0]
    exact hh.1
  | succ j =>
    have h1 := hs j (by omega)
    have e1 : ls[j + 1]?.getD [] = ls[j + 1] := by simp [hb]
    rw [e1] at h1
    unfold stampedB at h1
    simp only [Bool.and_eq_true, decide_eq_true_eq] at h1
    exact h1.1

section
variable {e s e' s' : Nat} {is is' : List (Int × List UInt8)}
theorem put_marks (hok : okGroup e s is) (b : Nat) (hb : b < (putL e s is).length) (x : Fin 8) : (sec (putL e s is)[b] x.val).take 8 = mark e s := by
  have h := grp_marks (put_grp hok) b hb x
  have e0 : (putL e s is)[0]?.getD [] = headB e s (entL (mark e s) is) := rfl
  rw [e0, (put_said hok).1, (put_said hok).2.1] at h
  exact h

/-- where one sector is another group's, or was never written, only the other group whole is a group -/
theorem mix_grp (hok : okGroup e s is) (hok' : okGroup e' s' is') (hne : ¬(e = e' ∧ s = s')) (X : List (List UInt8)) (hl : X.length = (putL e s is).length)
    (hsec : ∀ b (h : b < X.length) (x : Fin 8), sec X[b] x.val = sec ((putL e s is)[b]'(by omega)) x.val ∨ (∃ h' : b < (putL e' s' is').length, sec X[b] x.val = sec ((putL e' s' is')[b]) x.val) ∨ (sec X[b] x.val).take 8 = List.replicate 8 0)
    (hsome : ∃ b, ∃ h : b < X.length, ∃ x : Fin 8, (∃ h' : b < (putL e' s' is').length, sec X[b] x.val = sec ((putL e' s' is')[b]) x.val) ∨ (sec X[b] x.val).take 8 = List.replicate 8 0)
    (hg : isGrp X) : X = putL e' s' is' := by
  have st := (okStamp_iff _ _).1 (grp_ok hg)
  have st1 := (okStamp_iff _ _).1 hok.1.1
  have st2 := (okStamp_iff _ _).1 hok'.1.1
  have noz : mark (saidE (X[0]?.getD [])) (saidS (X[0]?.getD [])) ≠ List.replicate 8 0 := mark_ne (by omega) (by omega) (by omega)
  have hthe : saidE (X[0]?.getD []) = e' ∧ saidS (X[0]?.getD []) = s' := by
    obtain ⟨b, hb, x, ⟨h', hx⟩ | hx⟩ := hsome
    · have h1 := grp_marks hg b hb x
      rw [hx, put_marks hok' b h' x] at h1
      obtain ⟨q1, q2⟩ := mark_inj (by omega) (by omega) (by omega) (by omega) h1
      exact ⟨q1.symm, q2.symm⟩
    · exact absurd ((grp_marks hg b hb x).symm.trans hx) noz
  have hall : ∀ b (hb : b < X.length), ∃ h' : b < (putL e' s' is').length, X[b] = (putL e' s' is')[b] := by
    intro b hb
    have each : ∀ x : Fin 8, ∃ h' : b < (putL e' s' is').length, sec X[b] x.val = sec ((putL e' s' is')[b]) x.val := by
      intro x
      rcases hsec b hb x with hx | hx | hx
      · have h1 := grp_marks hg b hb x
        rw [hx, put_marks hok b (by omega) x, hthe.1, hthe.2] at h1
        exact absurd (mark_inj (by omega) (by omega) (by omega) (by omega) h1) hne
      · exact hx
      · exact absurd ((grp_marks hg b hb x).symm.trans hx) noz
    obtain ⟨h', _⟩ := each 0
    refine ⟨h', ?_⟩
    rw [← cat_sec X[b] (grp_len hg b hb), ← cat_sec _ (grp_len (put_grp hok') b h')]
    congr 1
    funext x
    obtain ⟨_, h2⟩ := each x
    exact h2
  have h0 : 0 < X.length := hg.1
  obtain ⟨h0', e0⟩ := hall 0 h0
  have hX0 : X[0]?.getD [] = headB e' s' (entL (mark e' s') is') := by
    rw [List.getElem?_eq_getElem h0, Option.getD_some, e0]
    rfl
  have hlen : X.length = (putL e' s' is').length := by
    have := hg.2.2.1
    rw [hX0, (put_said hok').2.2, entL_length] at this
    rw [this]
    simp [putL]
  refine List.ext_getElem hlen (fun b h1 h2 => ?_)
  obtain ⟨_, e1⟩ := hall b h1
  exact e1
end
end Go.Proofs.Ytghcmlkgpedkkaa
