/-
  Whole numbers in a slice of one's own, with a cut ahead of them and room behind; what an append does to them.
-/
import Derived.Test.YtoopdooepnojhaaArgs
import Derived.ArgAppend
namespace Go.Proofs.Ytoopdooepnojhaa
open Go.RowKit

theorem wpList_append_ran {w : World} {ops : Array Oper} {rest : List Oper} {o : Oper} {a : Act} {Q : Exit → Act → World → Prop} (hgd : o.guard = none) (sl x : Operand) (t u : TypeId)
    (ho : o.op = .call { callee := .builtin .append, args := #[sl, x], argTypes := #[t, u] }) (v s v' : Value) (W : World) (hs : a.eval sl = v) (hx : a.eval x = s)
    (hrun : (Builtin.append_ #[t, u] o.type #[v, s]).run Try.prog w = .ok v' W) (h : wpList Try.prog ops Q rest (a.put o.dst v') W) : wpList Try.prog ops Q (o :: rest) a w := by
  refine wpList_plain hgd fun K hK => ?_
  unfold Oper.wp execOp
  simp only [ho, resolve, invoke, builtin, Sem.run_bind, Sem.run_pure, Result.andThen_ok, List.map_toArray, List.map_cons, List.map_nil, hs, hx, hrun]
  exact hK _ _ h

theorem Box.ne {w : World} {g g' : Nat} {cs cs' : Array Value} {t t' : TypeId} (h : Box w g cs t) (h' : Box w g' cs' t') (ht : t ≠ t') : g ≠ g' := by
  rintro rfl
  unfold Box at h h'
  rw [h] at h'
  injection h' with h'
  injection h' with _ h'
  exact ht h'

theorem info3 : (Try.prog.info? 3).map (fun i => (i.zero, i.size, i.bytes)) = some (some (.int .i64 0), 1, 8) := by kernel_rfl

/-- the numbers xs in a slice whose block is its own, made behind B; or no slice -/
def Line (B : Nat) (w : World) (v : Value) (xs : List Int) : Prop :=
  (v = .slice none 0 0 ∧ xs = []) ∨ ∃ g o cap cur, v = .slice (some ⟨g, o, none⟩) xs.length cap ∧ Box w g cur 3 ∧ xs.length ≤ cap ∧ o + cap ≤ cur.size ∧ cap ≤ maxLen ∧ B ≤ g ∧
    ∀ j (h : j < xs.length), cur[o + j]? = some (.int .i64 xs[j])

theorem Line.below {B : Nat} {w w' : World} {v : Value} {xs : List Int} (h : Line B w v xs) (b : Below w.heap.size w w') : Line B w' v xs := by
  rcases h with h | ⟨g, o, cap, cur, h0, h1, h2⟩
  · exact .inl h
  · exact .inr ⟨g, o, cap, cur, h0, h1.below b, h2⟩
theorem Line.other {B : Nat} {w : World} {v : Value} {xs : List Int} (h : Line B w v xs) {k : Nat} {cb : Array Value} (hk : Box w k cb 23) (j : Nat) (u : Value) : Line B (w.setCell ⟨k, j, none⟩ u) v xs := by
  rcases h with h | ⟨g, o, cap, cur, h0, h1, h2⟩
  · exact .inl h
  · exact .inr ⟨g, o, cap, cur, h0, h1.other j u (h1.ne hk (by decide)), h2⟩
theorem Line.set4 {B : Nat} {w : World} {v : Value} {xs : List Int} (h : Line B w v xs) {k : Nat} {v0 v1 v2 v3 : Value} (hk : Box w k #[v0, v1, v2, v3] 23) (u0 u1 u2 u3 : Value) : Line B (set4 w k u0 u1 u2 u3) v xs := by
  have k1 := hk.store 0 u0
  have k2 := k1.store 1 u1
  have k3 := k2.store 2 u2
  exact (((h.other hk 0 u0).other k1 1 u1).other k2 2 u2).other k3 3 u3
theorem Line.val {B : Nat} {w : World} {v : Value} {xs : List Int} (h : Line B w v xs) : ∃ a c, v = .slice a xs.length c := by
  rcases h with ⟨rfl, rfl⟩ | ⟨g, o, cap, cur, h0, _⟩
  · exact ⟨none, 0, rfl⟩
  · exact ⟨_, cap, h0⟩
theorem Line.at {B : Nat} {w : World} {v : Value} {xs : List Int} (h : Line B w v xs) {k : Nat} (hk : k < xs.length) : ∃ g o cap, v = .slice (some ⟨g, o, none⟩) xs.length cap ∧ w.cell? ⟨g, o + k, none⟩ = some (.int .i64 xs[k]) := by
  rcases h with ⟨_, rfl⟩ | ⟨g, o, cap, cur, h0, h1, _, _, _, _, h2⟩
  · simp at hk
  · exact ⟨g, o, cap, h0, (h1.cell _).trans (h2 k hk)⟩

/-- what a cut leaves -/
theorem Line.drop {B : Nat} {w : World} {xs : List Int} {g o cap k : Nat} (h : Line B w (.slice (some ⟨g, o, none⟩) xs.length cap) xs) (hk : k ≤ xs.length) : Line B w (.slice (some ⟨g, o + k, none⟩) (xs.drop k).length (cap - k)) (xs.drop k) := by
  rcases h with ⟨h, _⟩ | ⟨g', o', cap', cur, h0, h1, h2, h3, h4, h5, h6⟩
  · cases h
  · injection h0 with h0 _ hc
    injection h0 with h0
    injection h0 with e1 e2 _
    subst e1 e2 hc
    refine .inr ⟨g, o + k, cap - k, cur, rfl, h1, by simp; omega, by omega, by omega, h5, fun j hj => ?_⟩
    simp at hj
    rw [Nat.add_assoc, h6 (k + j) (by omega)]
    simp

/-- what a cut leaves, as the walk has it: a cut to no room leaves the address -/
theorem Line.cut {B : Nat} {w : World} {xs : List Int} {g o cap k : Nat} (h : Line B w (.slice (some ⟨g, o, none⟩) xs.length cap) xs) (hk : k ≤ xs.length) : Line B w (.slice (if cap = k then some ⟨g, o, none⟩ else some ⟨g, o + k, none⟩) (xs.length - k) (cap - k)) (xs.drop k) := by
  by_cases hc : cap = k
  · rw [if_pos hc]
    rcases h with ⟨h, _⟩ | ⟨g', o', cap', cur, h0, h1, h2, h3, h4, h5, h6⟩
    · cases h
    · injection h0 with h0 _ hc'
      injection h0 with h0
      injection h0 with e1 e2 _
      subst e1 e2 hc'
      refine .inr ⟨g, o, cap - k, cur, by rw [List.length_drop], h1, by simp; omega, by omega, by omega, h5, fun j hj => ?_⟩
      simp at hj
      omega
  · rw [if_neg hc]
    have := h.drop hk
    rw [List.length_drop] at this
    exact this

/-- one number more: in place, or all of it anew -/
theorem Line.append {B : Nat} {w : World} {v : Value} {xs : List Int} (h : Line B w v xs) (hB : B ≤ w.heap.size) (ty : TypeId) (ga : Nat) (x : Int) (hx : Box w ga #[.int .i64 x] 3) (hn : xs.length ≤ 1000) :
    ∃ v' w', (Builtin.append_ #[36, 36] ty #[v, .slice (some ⟨ga, 0, none⟩) 1 1]).run Try.prog w = .ok v' w' ∧ Line B w' v' (xs ++ [x]) ∧ Below B w w' ∧ ∀ g cs, Box w g cs 23 → Box w' g cs 23 := by
  obtain ⟨i0, hi, hz0, hz1, hz2⟩ := info_parts info3
  have hnews : ∀ j u, ([.int .i64 x] : List Value)[j]? = some u → w.cell? ((⟨ga, 0, none⟩ : Addr).add j) = some u := by
    intro j u hj
    match j, hj with
    | 0, hj => simpa [Addr.add] using (hx.cell 0).trans hj
  rcases h with ⟨rfl, rfl⟩ | ⟨g, o, cap, cur, rfl, hb, h1, h2, h3, h4, he⟩
  · obtain ⟨v', w', hr, ho, gr, _⟩ := run_append_own (P := Try.prog) w w.heap.size 36 ty 3 i0 (.int .i64 0) 1 8 Try.underlying36 hi hz0 hz1 hz2 rfl (by decide) (.slice none 0 0) 0 [] (World.ownsRow_nil _ _ _ _) ⟨ga, 0, none⟩ 1 1 [.int .i64 x] rfl hnews (by simp [Value.oneCell']) (by unfold maxLen; omega) (by omega) (Nat.le_refl _)
    rcases ho.2 with ⟨_, h0⟩ | ⟨g', cap', cur', rfl, hB', hg', hnc, hcm, hcs, ht⟩
    · omega
    refine ⟨_, _, hr, .inr ⟨g', 0, cap', cur', rfl, hg', hnc, by omega, hcm, by omega, fun j hj => ?_⟩, (Below.refl _ _).grown gr hB (fun k e => by cases e), fun q cs hq => (gr.block q hq.lt (by intro e; cases e)).trans hq⟩
    have : j = 0 := by simp at hj; omega
    subst this
    have c : cur'[0]? = (cur'.toList.take ((0 + 1) * 1))[0]? := by simp
    rw [ht] at c
    simpa using c
  by_cases hroom : xs.length + 1 ≤ cap
  · have hlt : o + xs.length < cur.size := by omega
    have hr := run_append_room_cells (P := Try.prog) w 36 ty 3 i0 Try.underlying36 hi g o xs.length cap ⟨ga, 0, none⟩ 1 1 [.int .i64 x] (by rw [hz1]; rfl) hnews (by simp [Value.oneCell']) hroom
      (fun j hj => by
        have : j = 0 := by simp at hj; omega
        subst this
        rw [hz1, Nat.mul_one, Nat.add_zero, hb.cell]
        simp [Array.getElem?_eq_getElem hlt])
      (fun j hj => hb.frozen _)
    rw [hz1, Nat.mul_one] at hr
    refine ⟨_, _, hr, .inr ⟨g, o, cap, _, by rw [List.length_append]; rfl, hb.store _ _, by rw [List.length_append]; exact hroom, by rw [Array.size_setIfInBounds]; exact h2, h3, h4, fun j hj => ?_⟩, (Below.refl _ _).setCell (p := ⟨g, o + xs.length, none⟩) h4 _, fun q cs hq => hq.other _ _ (hq.ne hb (by decide))⟩
    by_cases hjn : j < xs.length
    · rw [Array.getElem?_setIfInBounds, if_neg (by omega), List.getElem_append_left hjn]
      exact he j hjn
    · have hje : j = xs.length := by rw [List.length_append] at hj; simp at hj; omega
      subst hje
      rw [Array.getElem?_setIfInBounds, if_pos rfl, if_pos hlt, List.getElem_concat_length rfl]
  · have hlo : ((cur.toList.drop o).take xs.length).length = xs.length * 1 := by simp; omega
    obtain ⟨v', w', hr, ho, gr⟩ := run_append_arg_grows (P := Try.prog) w 36 ty 3 i0 (.int .i64 0) 1 8 Try.underlying36 hi hz0 hz1 hz2 rfl (by decide) ⟨g, o, none⟩ xs.length cap ((cur.toList.drop o).take xs.length) hlo
      (fun j u hj => by
        rw [List.getElem?_take] at hj
        split at hj
        · rw [List.getElem?_drop] at hj
          rw [Addr.add_lit, hb.cell]
          simpa using hj
        · cases hj) ⟨ga, 0, none⟩ 1 1 [.int .i64 x] rfl hnews (by omega) (by unfold maxLen; omega) (by omega)
    rcases ho.2 with ⟨_, h0⟩ | ⟨g', cap', cur', rfl, hB', hg', hnc, hcm, hcs, ht⟩
    · omega
    have cell : ∀ j, j < xs.length + 1 → cur'[0 + j]? = ((cur.toList.drop o).take xs.length ++ [.int .i64 x])[j]? := by
      intro j hj
      rw [← ht, List.getElem?_take, if_pos (by omega), Nat.zero_add]
      simp
    refine ⟨_, _, hr, .inr ⟨g', 0, cap', cur', by rw [List.length_append]; rfl, hg', by rw [List.length_append]; exact hnc, by omega, hcm, by omega, fun j hj => ?_⟩, (Below.refl _ _).grown gr hB (fun k e => by cases e), fun q cs hq => (gr.block q hq.lt (by intro e; cases e)).trans hq⟩
    have hj' : j < xs.length + 1 := by rw [List.length_append] at hj; simpa using hj
    have ll : ((cur.toList.drop o).take xs.length).length = xs.length := by omega
    by_cases hjn : j < xs.length
    · rw [cell j hj', List.getElem?_append_left (by omega), List.getElem?_take, if_pos hjn, List.getElem?_drop, List.getElem_append_left hjn]
      simpa using he j hjn
    · have hje : j = xs.length := by omega
      subst hje
      rw [cell _ hj', List.getElem?_append_right (by omega), ll, List.getElem_concat_length rfl]
      simp
end Go.Proofs.Ytoopdooepnojhaa
