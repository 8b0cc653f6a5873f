/-
  The chapter's fixed examples, as lists: no walk here.
-/
import Derived.Test.YtghcmlkgpedkkaaSumA
import Derived.Test.YtghcmlkgpedkkaaOver
namespace Go.Proofs.Ytghcmlkgpedkkaa

section
variable {f : List UInt8} (hf : f.length = 4096) (h97 : ∀ i, i < 4096 → f[i]? = some 97)
include hf
theorem one_sec (b : Nat) (hb : b < (putL 1 1 [(40, f)]).length) (x : Fin 8) : (sec (putL 1 1 [(40, f)])[b] x.val).take 8 = mark 1 1 := put_marks (one_ok f hf) b hb x
theorem hd_eight (s : Nat) (hs : s < 8) : ((oneH f).drop (s * 512)).take 8 = mark 1 1 := by
  have h := one_sec hf 0 (by simp [putL]) ⟨s, hs⟩
  have e : (putL 1 1 [(40, f)])[0]'(by simp [putL]) = oneH f := rfl
  rw [e] at h
  unfold sec at h
  rw [List.take_take] at h
  exact h
theorem st_eight (s : Nat) (hs : s < 8) : ((stB (mark 1 1) f).drop (s * 512)).take 8 = mark 1 1 := by
  have h := one_sec hf 1 (by simp [putL]) ⟨s, hs⟩
  have e : (putL 1 1 [(40, f)])[1]'(by simp [putL]) = stB (mark 1 1) f := rfl
  rw [e] at h
  unfold sec at h
  rw [List.take_take] at h
  exact h
include h97 in
theorem st_nine (s : Nat) (hs : s < 8) : ((stB (mark 1 1) f).drop (s * 512)).take 9 = [0, 0, 1, 0, 0, 0, 0, 1, 97] := by
  have h := sec_st (mark 1 1) f hf (mark_length _ _) ⟨s, hs⟩
  have e : ((stB (mark 1 1) f).drop (s * 512)).take 9 = (sec (stB (mark 1 1) f) s).take 9 := by
    unfold sec
    rw [List.take_take]
    rfl
  have h2 : (mark 1 1).length = 8 := mark_length _ _
  rw [e]
  have h' : sec (stB (mark 1 1) f) s = mark 1 1 ++ (sec f s).drop 8 := h
  rw [h', List.take_append, List.take_of_length_le (by omega), h2]
  have e3 : ((sec f s).drop 8).take 1 = [97] := by
    unfold sec
    rw [List.drop_take, List.take_take, List.drop_drop]
    have h1 : (f.drop (s * 512 + 8))[0]? = some 97 := by rw [List.getElem?_drop]; exact h97 _ (by omega)
    cases hd : f.drop (s * 512 + 8) with
    | nil => rw [hd] at h1; simp at h1
    | cons a r =>
      rw [hd] at h1
      simp at h1
      subst h1
      rfl
  rw [e3, mark11]
  rfl
/-- one byte of a stamp is another: no group -/
theorem bad_no (s : Nat) (hs : s < 8) : ¬ isGrp ((putL 1 1 [(40, f)]).modify (s % 2) fun x => x.set (s * 512 + 7) 2) := fun hg => by
  obtain ⟨X, hX⟩ : ∃ X, X = (putL 1 1 [(40, f)]).modify (s % 2) fun x => x.set (s * 512 + 7) 2 := ⟨_, rfl⟩
  rw [← hX] at hg
  have hl : X.length = 2 := by rw [hX, List.length_modify]; rfl
  have hP : (putL 1 1 [(40, f)]).length = 2 := rfl
  have hb : s % 2 < 2 := by omega
  have hb' : 1 - s % 2 < 2 := by omega
  have g1 := grp_marks hg (s % 2) (by omega) ⟨s, hs⟩
  have g2 := grp_marks hg (1 - s % 2) (by omega) 0
  have e2 : X[1 - s % 2]'(by omega) = (putL 1 1 [(40, f)])[1 - s % 2]'(by omega) := by
    subst hX
    rw [List.getElem_modify, if_neg (by omega)]
  have e1 : X[s % 2]'(by omega) = ((putL 1 1 [(40, f)])[s % 2]'(by omega)).set (s * 512 + 7) 2 := by
    subst hX
    rw [List.getElem_modify, if_pos rfl]
  rw [e2, one_sec hf _ (by omega)] at g2
  rw [e1, ← g2] at g1
  have h4 : ((putL 1 1 [(40, f)])[s % 2]'(by omega)).length = 4096 := putL_len (one_ok f hf) _ (List.getElem_mem _)
  generalize (putL 1 1 [(40, f)])[s % 2]'(by omega) = Y at g1 h4
  have g3 := congrArg (fun l : List UInt8 => l[7]?) g1
  simp only [mark11] at g3
  rw [List.getElem?_take, if_pos (by omega), sec_get, if_pos (by omega), List.getElem?_set, if_pos rfl, if_pos (by omega)] at g3
  exact absurd g3 (by decide)
theorem one_no : ¬ isGrp [oneH f] := fun hg => by
  obtain ⟨_, _, h3, _⟩ := hg
  have e : saidEs (oneH f) = entL (mark 1 1) [(40, f)] := (put_said (one_ok f hf)).2.2
  have e0 : ([oneH f] : List (List UInt8))[0]?.getD [] = oneH f := rfl
  rw [e0, e] at h3
  simp [entL] at h3
include h97 in
theorem swap_no : ¬ isGrp [stB (mark 1 1) f, oneH f] := fun hg => by
  obtain ⟨_, hh, _⟩ := hg
  have e0 : ([stB (mark 1 1) f, oneH f] : List (List UInt8))[0]?.getD [] = stB (mark 1 1) f := rfl
  rw [e0] at hh
  have hn := hh.2.1.2.1.1
  rw [List.length_map] at hn
  have hc : cntOf (bodyX (stB (mark 1 1) f)) = 24929 := by
    have hb2 : (bodyX (stB (mark 1 1) f)).take 2 = [97, 97] := by
      rw [bodyX_cat]
      have p := part_cat (fun x : Fin 8 => (sec (stB (mark 1 1) f) x.val).drop 8) 504 (fun x => by
        rw [List.length_drop, sec_length _ _ (stB_length (mark 1 1) f hf (mark_length _ _)) x.isLt]) 0 8 (by omega) (by decide)
      have q : (cat (fun x : Fin 8 => (sec (stB (mark 1 1) f) x.val).drop 8) 8).take 2 = (((cat (fun x : Fin 8 => (sec (stB (mark 1 1) f) x.val).drop 8) 8).drop ((0 : Fin 8).val * 504)).take 504).take 2 := by
        rw [List.take_take]
        simp
      rw [q, p]
      have e := sec_st (mark 1 1) f hf (mark_length _ _) (0 : Fin 8)
      rw [e, List.drop_left' (mark_length _ _)]
      unfold sec
      rw [List.drop_take, List.take_take, List.drop_drop]
      have h1 := h97 8 (by omega)
      have h2 := h97 9 (by omega)
      have k1 : (f.drop 8)[0]? = some 97 := by rw [List.getElem?_drop]; exact h1
      have k2 : (f.drop 8)[1]? = some 97 := by rw [List.getElem?_drop]; exact h2
      show (f.drop 8).take 2 = [97, 97]
      match hd : f.drop 8 with
      | [] => rw [hd] at k1; simp at k1
      | [a] => rw [hd] at k2; simp at k2
      | a :: b :: r =>
        rw [hd] at k1 k2
        simp at k1 k2
        subst k1 k2
        rfl
    unfold cntOf
    rw [hb2]
    decide
  unfold saidEs at hn
  rw [hc] at hn
  simp at hn
end

theorem no_none (e s : Int) : ¬ okGroup e s [] := fun h => by
  have := h.1.2.1.1
  simp at this
theorem no_33 (e s : Int) : ¬ okGroup e s (manyL 33) := fun h => by
  have := h.1.2.1.2
  rw [List.length_map, manyL_length] at this
  omega
theorem no_twice (e s : Int) (z : List UInt8) : ¬ okGroup e s [(1, z), (1, z)] := fun h => by
  have := (h.1.2.2 1 (by simp) (by simp)).2
  simp at this
theorem no_512 (e s : Int) (z : List UInt8) : ¬ okGroup e s [(512, z)] := fun h => by
  have := (h.1.2.2 0 (by simp) (by simp)).1.2
  simp at this
theorem no_short (e s b : Int) (z : List UInt8) (hz : z.length = 4095) : ¬ okGroup e s [(b, z)] := fun h => by
  have := h.2 (b, z) (by simp)
  simp at this
  omega
theorem ok_32 : okGroup ((8388608 : Nat) : Int) ((549755813888 : Nat) : Int) (manyL 32) := by
  refine ⟨⟨by decide, by rw [List.length_map, manyL_length]; omega, fun j hj _ => ?_⟩, fun i hi => ?_⟩
  · have hm : (manyL 32).map (·.1) = (List.range 32).map fun (i : Nat) => 511 - (i : Int) := by simp [manyL]
    have hj' : j < 32 := by simpa [manyL] using hj
    have hg : ∀ (i : Nat) (h : i < ((manyL 32).map (·.1)).length), ((manyL 32).map (·.1))[i] = 511 - (i : Int) := fun i h => by simp [manyL]
    refine ⟨by rw [hg j hj]; omega, fun hmem => ?_⟩
    obtain ⟨k, hk, e⟩ := List.getElem_of_mem hmem
    have hk' : k < j := by
      rw [List.length_take] at hk
      omega
    rw [List.getElem_take, hg, hg] at e
    omega
  · unfold manyL at hi
    obtain ⟨k, _, hk⟩ := List.mem_map.1 hi
    have h1 : i.2 = madeL (k : Int) 4096 := by rw [← hk]
    rw [h1]
    exact madeL_length _ _
end Go.Proofs.Ytghcmlkgpedkkaa
