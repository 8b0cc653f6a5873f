/-
  Stable sorting, plainly: merges of sorted lists, split as the library's symMerge splits them.
-/
namespace Go.Proofs.Ytlbnilendcelkaa
variable {α : Type} (k : α → Int)
def Rise (l : List α) : Prop := l.Pairwise (fun a b => k a ≤ k b)
def mrg : List α → List α → List α
  | [], R => R
  | L, [] => L
  | x :: L, y :: R => if k x ≤ k y then x :: mrg L (y :: R) else y :: mrg (x :: L) R
termination_by L R => L.length + R.length
theorem mrg_nil (L : List α) : mrg k L [] = L := by cases L <;> simp [mrg]
theorem nil_mrg (R : List α) : mrg k [] R = R := by simp [mrg]
theorem mrg_len (L R : List α) : (mrg k L R).length = L.length + R.length := by
  induction L, R using mrg.induct k with
  | case1 R => simp [mrg]
  | case2 L h => rw [mrg_nil]; simp
  | case3 x L y R h ih => rw [mrg, if_pos h]; simp [ih]; omega
  | case4 x L y R h ih => rw [mrg, if_neg h]; simp [ih]; omega
theorem mem_mrg (L R : List α) (z : α) : z ∈ mrg k L R ↔ z ∈ L ∨ z ∈ R := by
  induction L, R using mrg.induct k with
  | case1 R => simp [mrg]
  | case2 L h => rw [mrg_nil]; simp
  | case3 x L y R h ih => rw [mrg, if_pos h]; simp [ih, or_assoc]
  | case4 x L y R h ih => rw [mrg, if_neg h]; simp only [List.mem_cons, ih]; constructor <;> (rintro h; rcases h with h | h | h <;> simp_all) 
theorem rise_mrg (L R : List α) (hL : Rise k L) (hR : Rise k R) : Rise k (mrg k L R) := by
  induction L, R using mrg.induct k with
  | case1 R => simpa [mrg] using hR
  | case2 L h => rw [mrg_nil]; exact hL
  | case3 x L y R h ih =>
    rw [mrg, if_pos h]
    unfold Rise at *
    rw [List.pairwise_cons] at hL ⊢
    refine ⟨fun z hz => ?_, ih hL.2 hR⟩
    rcases (mem_mrg k _ _ _).1 hz with h1 | h1
    · exact hL.1 z h1
    · rcases List.mem_cons.1 h1 with h2 | h2
      · rw [h2]; exact h
      · exact Int.le_trans h ((List.pairwise_cons.1 hR).1 z h2)
  | case4 x L y R h ih =>
    rw [mrg, if_neg h]
    unfold Rise at *
    rw [List.pairwise_cons] at hR ⊢
    refine ⟨fun z hz => ?_, ih hL hR.2⟩
    rcases (mem_mrg k _ _ _).1 hz with h1 | h1
    · rcases List.mem_cons.1 h1 with h2 | h2
      · rw [h2]; omega
      · have := (List.pairwise_cons.1 hL).1 z h2; omega
    · exact hR.1 z h1
theorem filter_mrg (v : Int) (L R : List α) (hL : Rise k L) (hR : Rise k R) : (mrg k L R).filter (fun x => k x = v) = L.filter (fun x => k x = v) ++ R.filter (fun x => k x = v) := by
  induction L, R using mrg.induct k with
  | case1 R => simp [mrg]
  | case2 L h => rw [mrg_nil]; simp
  | case3 x L y R h ih =>
    rw [mrg, if_pos h]
    have := ih (List.pairwise_cons.1 hL).2 hR
    rw [List.filter_cons, List.filter_cons (xs := L), this]
    split <;> simp
  | case4 x L y R h ih =>
    rw [mrg, if_neg h]
    have := ih hL (List.pairwise_cons.1 hR).2
    rw [List.filter_cons, List.filter_cons (xs := R), this]
    by_cases hv : k y = v
    · have h0 : (x :: L).filter (fun x => decide (k x = v)) = [] := by
        rw [List.filter_eq_nil_iff]
        intro z hz
        rcases List.mem_cons.1 hz with h2 | h2
        · subst h2; simp; omega
        · have := (List.pairwise_cons.1 hL).1 z h2; simp; omega
      rw [h0]; simp [hv]
    · simp [hv]
theorem mrg_split (L1 L2 R1 R2 : List α) (hL : Rise k (L1 ++ L2)) (hR : Rise k (R1 ++ R2)) (h1 : ∀ x ∈ L1, ∀ y ∈ R2, k x ≤ k y) (h2 : ∀ y ∈ R1, ∀ x ∈ L2, k y < k x) : mrg k (L1 ++ L2) (R1 ++ R2) = mrg k L1 R1 ++ mrg k L2 R2 := by
  induction L1, R1 using mrg.induct k with
  | case1 R =>
    rw [nil_mrg, List.nil_append]
    induction R with
    | nil => simp
    | cons y R ih =>
      cases L2 with
      | nil => rw [nil_mrg, nil_mrg]
      | cons x L2 =>
        rw [List.cons_append, mrg, if_neg (by have := h2 y (by simp) x (by simp); omega)]
        rw [List.cons_append, ih (List.pairwise_cons.1 hR).2 (fun y hy => h2 y (by simp [hy]))]
  | case2 L h =>
    rw [mrg_nil, List.nil_append]
    clear h
    induction L with
    | nil => simp
    | cons x L ih =>
      cases R2 with
      | nil => rw [mrg_nil, mrg_nil]
      | cons y R2 =>
        rw [List.cons_append, mrg, if_pos (h1 x (by simp) y (by simp))]
        rw [List.cons_append, ih (List.pairwise_cons.1 hL).2 (fun x hx => h1 x (by simp [hx]))]
  | case3 x L y R h ih =>
    rw [List.cons_append, List.cons_append, mrg, if_pos h, mrg, if_pos h, List.cons_append]
    congr 1
    exact ih (List.pairwise_cons.1 hL).2 hR (fun x hx => h1 x (by simp [hx])) h2
  | case4 x L y R h ih =>
    rw [List.cons_append, List.cons_append, mrg, if_neg h, mrg, if_neg h, List.cons_append]
    congr 1
    exact ih hL (List.pairwise_cons.1 hR).2 h1 (fun y hy => h2 y (by simp [hy]))
/-- y is x, stably sorted -/
structure Stb (x y : List α) : Prop where
  rise : Rise k y
  flt : ∀ v, y.filter (fun a => k a = v) = x.filter (fun a => k a = v)
  len : y.length = x.length
theorem Stb.mrg {x x' y y' : List α} (h : Stb k x x') (g : Stb k y y') : Stb k (x ++ y) (mrg k x' y') :=
  ⟨rise_mrg k _ _ h.rise g.rise, fun v => by rw [filter_mrg k v _ _ h.rise g.rise, h.flt, g.flt, List.filter_append], by rw [mrg_len, h.len, g.len, List.length_append]⟩
theorem Stb.same {x : List α} (h : Rise k x) : Stb k x x := ⟨h, fun _ => rfl, rfl⟩
theorem Stb.trans {x y z : List α} (h : Stb k x y) (g : Stb k y z) : Stb k x z := ⟨g.rise, fun v => by rw [g.flt, h.flt], by rw [g.len, h.len]⟩
theorem rise_eq {y z : List α} (hy : Rise k y) (hz : Rise k z) (h : ∀ v, y.filter (fun a => k a = v) = z.filter (fun a => k a = v)) : y = z := by
  induction y generalizing z with
  | nil =>
    cases z with
    | nil => rfl
    | cons b z => have := h (k b); simp at this
  | cons a y ih =>
    cases z with
    | nil => have := h (k a); simp at this
    | cons b z =>
      have hab : k a = k b := by
        have ha : a ∈ (b :: z).filter (fun c => k c = k a) := by rw [← h (k a)]; simp
        have hb : b ∈ (a :: y).filter (fun c => k c = k b) := by rw [h (k b)]; simp
        have h1 : k b ≤ k a := by
          rcases List.mem_cons.1 (List.mem_filter.1 ha).1 with e | e
          · rw [e]; exact Int.le_refl _
          · exact (List.pairwise_cons.1 hz).1 a e
        have h2 : k a ≤ k b := by
          rcases List.mem_cons.1 (List.mem_filter.1 hb).1 with e | e
          · rw [e]; exact Int.le_refl _
          · exact (List.pairwise_cons.1 hy).1 b e
        omega
      have e := h (k a)
      rw [List.filter_cons, List.filter_cons] at e
      simp only [hab, decide_true, if_true] at e
      obtain ⟨e1, e2⟩ := List.cons.inj e
      subst e1
      congr 1
      refine ih (List.pairwise_cons.1 hy).2 (List.pairwise_cons.1 hz).2 (fun v => ?_)
      have e := h v
      rw [List.filter_cons, List.filter_cons] at e
      split at e
      · exact (List.cons.inj e).2
      · exact e
theorem Stb.uniq {x y z : List α} (h : Stb k x y) (g : Stb k x z) : y = z := rise_eq k h.rise g.rise (fun v => by rw [h.flt, g.flt])
theorem Stb.of_rise {x y : List α} (h : Stb k x y) (hx : Rise k x) : y = x := h.uniq k (Stb.same k hx)
/-- one is laid into a sorted list, from the right -/
theorem mrg_last (L1 L2 : List α) (y : α) (hL : Rise k (L1 ++ L2)) (h1 : ∀ x ∈ L1, k x ≤ k y) (h2 : ∀ x ∈ L2, k y < k x) : mrg k (L1 ++ L2) [y] = L1 ++ y :: L2 := by
  have a := mrg_split k L1 L2 [] [y] hL (by simp [Rise]) (by simpa using h1) (by simp)
  have b := mrg_split k [] L2 [y] [] (by rw [List.nil_append]; exact (List.pairwise_append.1 hL).2.1) (by simp [Rise]) (by simp) (by simpa using h2)
  simp only [List.nil_append, List.append_nil, mrg_nil, nil_mrg] at a b
  rw [a, b]; simp
theorem mrg_first (R1 R2 : List α) (x : α) (hR : Rise k (R1 ++ R2)) (h1 : ∀ y ∈ R1, k y < k x) (h2 : ∀ y ∈ R2, k x ≤ k y) : mrg k [x] (R1 ++ R2) = R1 ++ x :: R2 := by
  have a := mrg_split k [] [x] R1 R2 (by simp [Rise]) hR (by simp) (by simpa using h1)
  have b := mrg_split k [x] [] [] R2 (by simp [Rise]) (by rw [List.nil_append]; exact (List.pairwise_append.1 hR).2.1) (by simpa using h2) (by simp)
  simp only [List.nil_append, List.append_nil, mrg_nil, nil_mrg] at a b
  rw [a, b]; simp
/-- two of a list, at unlike places, change places -/
def swp (l : List α) (i j : Nat) : List α :=
  match l[i]?, l[j]? with
  | some x, some y => (l.set i y).set j x
  | _, _ => l
theorem swp_mid (P M S : List α) (x y : α) : swp (P ++ x :: (M ++ y :: S)) P.length (P.length + 1 + M.length) = P ++ y :: (M ++ x :: S) := by
  unfold swp
  have e1 : (P ++ x :: (M ++ y :: S))[P.length]? = some x := by simp
  have e2 : (P ++ x :: (M ++ y :: S))[P.length + 1 + M.length]? = some y := by
    rw [List.getElem?_append_right (by omega), show P.length + 1 + M.length - P.length = M.length + 1 by omega, List.getElem?_cons_succ]; simp
  rw [e1, e2]
  simp only
  rw [List.set_append_right _ _ (by omega), Nat.sub_self, List.set_cons_zero, List.set_append_right _ _ (by omega), show P.length + 1 + M.length - P.length = M.length + 1 by omega, List.set_cons_succ, List.set_append_right _ _ (by omega), Nat.sub_self, List.set_cons_zero]
theorem swp_comm (l : List α) (i j : Nat) (h : i ≠ j) : swp l i j = swp l j i := by
  unfold swp
  cases e1 : l[i]? <;> cases e2 : l[j]? <;> simp only
  rw [List.set_comm _ _ (Ne.symm h)]
theorem swp_len (l : List α) (i j : Nat) : (swp l i j).length = l.length := by
  unfold swp
  cases e1 : l[i]? <;> cases e2 : l[j]? <;> simp
end Go.Proofs.Ytlbnilendcelkaa
