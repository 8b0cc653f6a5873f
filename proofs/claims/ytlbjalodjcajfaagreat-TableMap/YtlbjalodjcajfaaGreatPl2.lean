/-
  What the program's lists are, in pairs.
-/
import Derived.Test.YtlbjalodjcajfaaGreatPln
namespace Go.Proofs.YtlbjalodjcajfaaGreat
open Go.RowKit Go.Maps
section
variable {n : Nat} {P A B B' : List Pr} {key : ByteArray} {p : Pr}
theorem cut_lenP (h : Cut P key A B) : P.length = A.length + B.length := by rw [h.eq]; simp
theorem cut_get (h : Cut P key A (p :: B')) : P[A.length]? = some p := by rw [h.eq]; simp
theorem hasK_yes (h : Cut P key A (p :: B')) (hk : p.1 = key) : hasK (tbl n P) key = true := by
  unfold hasK
  rw [cut_len h n, tbl_lo (cut_get h)]
  simp [us, hk]
theorem hasK_no (h : Cut P key A B) (hn : ∀ p ∈ P, p.1 ≠ key) : hasK (tbl n P) key = false := by
  unfold hasK
  rw [cut_len h n]
  cases B with
  | nil =>
    have hl := cut_lenP h
    simp at hl
    by_cases hlt : A.length < n
    · rw [tbl_hi (by omega) hlt]; rfl
    · rw [List.getElem?_eq_none (by unfold tbl; simp; omega)]
  | cons b B' =>
    rw [tbl_lo (cut_get h)]
    have := hn b (by rw [h.eq]; simp)
    simp [us, this]
theorem set_has (h : Cut P key A (p :: B')) (val : ByteArray) : (tbl n P).set (posOf (tbl n P) key) ⟨true, key, val⟩ = tbl n (A ++ (key, val) :: B') := by
  rw [cut_len h n]
  unfold tbl
  rw [h.eq, List.set_append_left _ _ (by simp), List.map_append, List.set_append_right _ _ (by simp), List.map_cons, show A.length - (A.map us).length = 0 by simp, List.set_cons_zero]
  simp [us]
theorem ins_new (h : Cut P key A B) (hl : P.length < n) (val : ByteArray) : insL (tbl n P) n (posOf (tbl n P) key) ⟨true, key, val⟩ = tbl n (A ++ (key, val) :: B) := by
  have hle := cut_lenP h
  rw [cut_len h n]
  unfold insL tbl
  have e1 : (P.map us ++ List.replicate (n - P.length) E0).take A.length = A.map us := by
    rw [h.eq, List.map_append, List.append_assoc, List.take_left' (by simp)]
  have e2 : (P.map us ++ List.replicate (n - P.length) E0).take (n - 1) = P.map us ++ List.replicate (n - 1 - P.length) E0 := by
    rw [List.take_append, List.take_of_length_le (by simp; omega), List.take_replicate]
    congr 2
    simp
    omega
  rw [e1, e2, h.eq, List.map_append, List.append_assoc, List.drop_left' (by simp)]
  simp only [List.map_append, List.map_cons, List.append_assoc, List.cons_append, List.nil_append, List.length_append, List.length_cons]
  congr 4
  omega
theorem del_has (h : Cut P key A (p :: B')) (hl : P.length ≤ n) : delL (tbl n P) (posOf (tbl n P) key) = tbl n (A ++ B') := by
  have hle := cut_lenP h
  simp at hle
  rw [cut_len h n]
  unfold delL tbl
  have e1 : (P.map us ++ List.replicate (n - P.length) E0).take A.length = A.map us := by
    rw [h.eq, List.map_append, List.append_assoc, List.take_left' (by simp)]
  have e2 : (P.map us ++ List.replicate (n - P.length) E0).drop (A.length + 1) = B'.map us ++ List.replicate (n - P.length) E0 := by
    rw [h.eq, List.map_append, List.map_cons, show A.map us ++ us p :: B'.map us ++ List.replicate (n - (A ++ p :: B').length) E0 = (A.map us ++ [us p]) ++ (B'.map us ++ List.replicate (n - (A ++ p :: B').length) E0) by simp, List.drop_left' (by simp)]
  rw [e1, e2]
  simp only [List.map_append, List.append_assoc, List.length_append]
  congr 2
  rw [show n - (A.length + B'.length) = (n - P.length) + 1 by omega, List.replicate_succ']
theorem find_tw {α : Type} (f : α → Bool) : ∀ l : List α, l.find? f = l[(l.takeWhile (fun a => !f a)).length]?
  | [] => rfl
  | a :: l => by
    cases hf : f a with
    | true => rw [List.find?_cons_of_pos hf, List.takeWhile_cons_of_neg (by simp [hf])]; rfl
    | false => rw [List.find?_cons_of_neg (by simp [hf]), List.takeWhile_cons_of_pos (by simp [hf]), find_tw f l]; simp
theorem next_tbl (P : List Pr) (n : Nat) (key : ByteArray) : nextOf (tbl n P) key = (nxtP P key).map us := by
  unfold nextOf nxtP
  rw [pos_tbl, find_tw]
  show (match (tbl n P)[(P.takeWhile (fun p => !blt key p.1)).length]? with | none => none | some e => if e.u = true then some e else none) = _
  generalize (P.takeWhile (fun p => !blt key p.1)).length = i
  by_cases hi : i < P.length
  · have hx := List.getElem?_eq_getElem hi
    rw [tbl_lo hx, hx]
    simp [us]
  · rw [List.getElem?_eq_none (l := P) (by omega)]
    by_cases hn : i < n
    · rw [tbl_hi (by omega) hn]; rfl
    · rw [List.getElem?_eq_none (by unfold tbl; simp; omega)]; rfl
theorem asc_ins (ha : Asc P) (val : ByteArray) : Asc (insP P key val) := by
  rcases cut_case ha key with ⟨A, p, B', h, hk, hB⟩ | ⟨A, B, h, hn⟩
  · rw [insP_has h hk hB]
    have ha' := ha
    rw [h.eq] at ha'
    obtain ⟨a1, a2, a3⟩ := List.pairwise_append.1 ha'
    refine List.pairwise_append.2 ⟨a1, ?_, fun x hx y hy => ?_⟩
    · refine List.pairwise_cons.2 ⟨fun y hy => ?_, (List.pairwise_cons.1 a2).2⟩
      have := (List.pairwise_cons.1 a2).1 y hy
      rw [hk] at this
      exact this
    · rcases List.mem_cons.1 hy with rfl | hy
      · exact h.lo x hx
      · exact a3 x hx y (List.mem_cons_of_mem _ hy)
  · have hB : ∀ b ∈ B, b.1 ≠ key := fun b hb => hn b (by rw [h.eq]; exact List.mem_append_right _ hb)
    rw [insP_new h hB]
    have ha' := ha
    rw [h.eq] at ha'
    obtain ⟨a1, a2, a3⟩ := List.pairwise_append.1 ha'
    refine List.pairwise_append.2 ⟨a1, List.pairwise_cons.2 ⟨fun y hy => ?_, a2⟩, fun x hx y hy => ?_⟩
    · cases hk : blt key y.1 with
      | true => rfl
      | false => exact absurd (blt_tri (h.hi y hy) hk) (hB y hy)
    · rcases List.mem_cons.1 hy with rfl | hy
      · exact h.lo x hx
      · exact a3 x hx y hy
theorem asc_del (ha : Asc P) : Asc (delP P key) := List.Pairwise.filter _ ha
theorem getP_iff : (getP P key).isSome = true ↔ ∃ p ∈ P, p.1 = key := by
  unfold getP
  rw [Option.isSome_map, List.find?_isSome]
  simp
theorem insP_len_has (ha : Asc P) (val : ByteArray) (h : (getP P key).isSome = true) : (insP P key val).length = P.length := by
  rcases cut_case ha key with ⟨A, p, B', hc, hk, hB⟩ | ⟨A, B, hc, hn⟩
  · rw [insP_has hc hk hB, hc.eq]; simp
  · obtain ⟨p, hp, hk⟩ := getP_iff.1 h; exact absurd hk (hn p hp)
theorem insP_len_no (ha : Asc P) (val : ByteArray) (h : (getP P key).isSome = false) : (insP P key val).length = P.length + 1 := by
  rcases cut_case ha key with ⟨A, p, B', hc, hk, hB⟩ | ⟨A, B, hc, hn⟩
  · have := (getP_iff (P := P) (key := key)).2 ⟨p, by rw [hc.eq]; simp, hk⟩; rw [h] at this; cases this
  · rw [insP_new hc (fun b hb => hn b (by rw [hc.eq]; exact List.mem_append_right _ hb)), hc.eq]; simp; omega
theorem last_tbl (hl : P.length ≤ n) (h1 : 1 ≤ n) : ∃ z, (tbl n P)[n - 1]? = some z ∧ z.u = decide (P.length = n) := by
  by_cases he : P.length = n
  · have hx := List.getElem?_eq_getElem (l := P) (i := n - 1) (by omega)
    exact ⟨_, tbl_lo hx, by simp [us, he]⟩
  · exact ⟨E0, tbl_hi (by omega) (by omega), by simp [E0, he]⟩
end
end Go.Proofs.YtlbjalodjcajfaaGreat
