/-
  Slices of blocks' bytes, with a cut ahead of them and room behind; what an append does to them. Pick. What a crash that keeps all leaves.
-/
import Derived.Test.YtagnmmapnpcijaaSteps
import Derived.Test.YtagnmmapnpcijaaMade
import Derived.ArgAppend
namespace Go.Proofs.Ytagnmmapnpcijaa
open Go.RowKit

theorem pick_at (x : Int) (n : Nat) (N : Int) (w : World) (hN : N = (n : Int)) (h0 : 0 < n) (hn : n ≤ 2000000) :
    Calls Try.prog 26 #[.int .i64 x, .int .i64 N] w fun e w' => ∃ p : Nat, p < n ∧ e = .returned (.int .i64 p) ∧ w = w' := by
  subst hN
  have h1 : x.tmod n < n := Int.tmod_lt_of_pos x (by omega)
  have h2 : -(n : Int) < x.tmod n := Int.lt_tmod_of_pos x (by omega)
  obtain ⟨y, hy⟩ : ∃ y, x.tmod n = y := ⟨_, rfl⟩
  rw [hy] at h1 h2
  go_enter Try.func26, Try.ntmps26
  go_wp2
  · go_ret
    exact ⟨(y + n).toNat, by omega, by
      have e : ((y + n).toNat : Int) = y + n := by omega
      rw [e]
      rfl, rfl⟩
  · go_ret
    exact ⟨y.toNat, by omega, by
      have e : (y.toNat : Int) = y := by omega
      rw [e]
      rfl, rfl⟩

/-- a crash that keeps all leaves the disk as it stood -/
theorem crashTo_all (ks : List Bool) (m : Nat) (uf : List (Nat × List UInt8)) (d : List UInt8) (hk : ∀ k, k < uf.length → keeps ks k = true) : ∀ k, k ≤ uf.length → crashTo ks (-1) m uf d k = carryTo uf d k
  | 0, _ => rfl
  | k + 1, h => by
    have ih := crashTo_all ks m uf d hk k (by omega)
    have hg : uf[k]? = some uf[k] := List.getElem?_eq_getElem (by omega)
    have ht : ¬ (k : Int) = -1 := by omega
    rw [crashTo, carryTo, hg]
    simp only [if_neg ht, hk k (by omega), if_true, ih]
theorem crash_all (D : DS) (ks : List Bool) (m : Nat) (hk : ∀ k, k < D.uf.length → keeps ks k = true) : (D.crash ks (-1) m).image = D.image := by
  show crashTo ks (-1) m D.uf D.dur D.uf.length = _
  rw [crashTo_all ks m D.uf D.dur hk _ (Nat.le_refl _)]
  rfl
theorem flush_crash (D : DS) (h : D.quiet) (ks : List Bool) (t : Int) (m : Nat) : (D.flush.crash ks t m).image = D.image ∧ (D.flush.crash ks t m).uf = [] := by
  rw [h.flush]
  exact ⟨rfl, rfl⟩

theorem info27 : (Try.prog.info? 27).map (fun i => (i.zero, i.size, i.bytes)) = some (some (.slice none 0 0), 1, 24) := by kernel_rfl

/-- blocks' bytes, one behind another: slices in block g; nothing of it in F -/
def Pile (w : World) (F : Nat → Prop) (g : Nat) (v : Value) (xs : List (List UInt8)) : Prop :=
  ∃ o cap cur, v = .slice (some ⟨g, o, none⟩) xs.length cap ∧ Box w g cur 27 ∧ xs.length ≤ cap ∧ o + cap ≤ cur.size ∧ cap ≤ maxLen ∧ ¬ F g ∧
    ∀ j (h : j < xs.length), ∃ p c, cur[o + j]? = some (.slice (some ⟨p, 0, none⟩) 4096 c) ∧ RowB w p c xs[j] ∧ ¬ F p

theorem Pile.kept {w w' : World} {F F' : Nat → Prop} {g : Nat} {v : Value} {xs : List (List UInt8)} (h : Pile w F g v xs) (hk : ∀ i, i < w.heap.size → ¬ F i → (i = g ∨ ∃ cur, Box w i cur 5) → w'.heap[i]? = w.heap[i]?) (hF : ∀ i, F' i → F i ∨ w.heap.size ≤ i) : Pile w' F' g v xs := by
  obtain ⟨o, cap, cur, hv, hb, h1, h2, h3, hn, he⟩ := h
  refine ⟨o, cap, cur, hv, (hk g hb.lt hn (.inl rfl)).trans hb, h1, h2, h3, fun h => by rcases hF g h with h | h; exact hn h; have := hb.lt; omega, fun j hj => ?_⟩
  obtain ⟨p, c, hc, hr, hp⟩ := he j hj
  have hlt := hr.lt
  have hr' := hr
  obtain ⟨cur5, hb5, _⟩ := hr'
  exact ⟨p, c, hc, hr.same (hk p hlt hp (.inr ⟨cur5, hb5⟩)), fun h => by rcases hF p h with h | h; exact hp h; omega⟩
theorem Pile.upd {w w' : World} {F F' : Nat → Prop} {g : Nat} {v : Value} {xs : List (List UInt8)} (h : Pile w F g v xs) (u : Upd F w w') (hF : ∀ i, F' i → F i ∨ w.heap.size ≤ i) : Pile w' F' g v xs :=
  h.kept (fun i hi hn _ => u.block i hi hn) hF
theorem Pile.below {w w' : World} {F : Nat → Prop} {g : Nat} {v : Value} {xs : List (List UInt8)} (h : Pile w F g v xs) (b : Below w.heap.size w w') : Pile w' F g v xs :=
  h.kept (fun i hi _ _ => b.block i hi) (fun _ h => .inl h)
/-- another block that holds no bytes is written -/
theorem Pile.other {w w' : World} {F : Nat → Prop} {g : Nat} {v : Value} {xs : List (List UInt8)} (h : Pile w F g v xs) {b : Nat} {cb : Array Value} {t : TypeId} (hb : Box w b cb t) (ht : t ≠ 5) (hg : g ≠ b) (gr : w.grownBy w' (some b)) : Pile w' F g v xs :=
  h.kept (fun i hi _ hc => gr.block i hi (fun e => by
    have e' : i = b := by simpa using e
    subst e'
    rcases hc with rfl | ⟨cur, hc⟩
    · exact hg rfl
    · exact hc.ne hb (fun h => ht h.symm) rfl)) (fun _ h => .inl h)

/-- one block more: in place, or all of it anew -/
theorem Pile.append {w : World} {F : Nat → Prop} {g : Nat} {v : Value} {xs : List (List UInt8)} (h : Pile w F g v xs) (ty : TypeId) (ga p c : Nat) (x : List UInt8) (hx : w.cell? ⟨ga, 0, none⟩ = some (.slice (some ⟨p, 0, none⟩) 4096 c)) (hp : RowB w p c x) (hpF : ¬ F p) (hFlt : ∀ i, F i → i < w.heap.size) (hn : xs.length ≤ 1000) :
    ∃ v' w' g', (Builtin.append_ #[46, 46] ty #[v, .slice (some ⟨ga, 0, none⟩) 1 1]).run Try.prog w = .ok v' w' ∧ Pile w' F g' v' (xs ++ [x]) ∧ w.grownBy w' (some g) ∧ (g' = g ∨ w.heap.size ≤ g') := by
  obtain ⟨i0, hi, hz0, hz1, hz2⟩ := info_parts info27
  obtain ⟨o, cap, cur, rfl, hb, h1, h2, h3, hgF, he⟩ := h
  have hnews : ∀ j u, ([.slice (some ⟨p, 0, none⟩) 4096 c] : List Value)[j]? = some u → w.cell? ((⟨ga, 0, none⟩ : Addr).add j) = some u := by
    intro j u hj
    match j, hj with
    | 0, hj => simpa [Addr.add] using hx.trans hj
  by_cases hroom : xs.length + 1 ≤ cap
  · have hlt : o + xs.length < cur.size := by omega
    have hr := run_append_room_cells (P := Try.prog) w 46 ty 27 i0 Try.underlying46 hi g o xs.length cap ⟨ga, 0, none⟩ 1 1 [.slice (some ⟨p, 0, none⟩) 4096 c] (by rw [hz1]; rfl) hnews (by simp [Value.oneCell']) hroom
      (fun j hj => by
        have : j = 0 := by simp at hj; omega
        subst this
        rw [hz1, Nat.mul_one, Nat.add_zero, hb.cell]
        simp [Array.getElem?_eq_getElem hlt])
      (fun j hj => hb.frozen _)
    rw [hz1, Nat.mul_one] at hr
    have gr : w.grownBy (w.setCell ⟨g, o + xs.length, none⟩ (.slice (some ⟨p, 0, none⟩) 4096 c)) (some g) := grown_store w g (o + xs.length) _
    have keep : ∀ q d y, RowB w q d y → RowB (w.setCell ⟨g, o + xs.length, none⟩ (.slice (some ⟨p, 0, none⟩) 4096 c)) q d y := by
      intro q d y hq
      have hlt := hq.lt
      have hq' := hq
      obtain ⟨cur5, hb5, _⟩ := hq'
      have hne : q ≠ g := hb5.ne hb (by decide)
      exact hq.same (gr.block q hlt (fun e => hne (by simpa using e)))
    refine ⟨_, _, g, hr, ⟨o, cap, _, by rw [List.length_append]; rfl, hb.store _ _, by rw [List.length_append]; exact hroom, by rw [Array.size_setIfInBounds]; exact h2, h3, hgF, fun j hj => ?_⟩, gr, .inl rfl⟩
    by_cases hjn : j < xs.length
    · obtain ⟨q, d, hc, hr5, hq⟩ := he j hjn
      refine ⟨q, d, ?_, ?_, hq⟩
      · rw [Array.getElem?_setIfInBounds, if_neg (by omega)]
        exact hc
      · rw [List.getElem_append_left hjn]
        exact keep q d _ hr5
    · have hje : j = xs.length := by rw [List.length_append] at hj; simp at hj; omega
      subst hje
      refine ⟨p, c, ?_, ?_, hpF⟩
      · rw [Array.getElem?_setIfInBounds, if_pos rfl, if_pos hlt]
      · rw [List.getElem_concat_length rfl]
        exact keep p c x hp
  · have hlo : ((cur.toList.drop o).take xs.length).length = xs.length * 1 := by simp; omega
    obtain ⟨v', w', hr, ho, gr⟩ := run_append_arg_grows (P := Try.prog) w 46 ty 27 i0 (.slice none 0 0) 1 24 Try.underlying46 hi hz0 hz1 hz2 rfl (by decide) ⟨g, o, none⟩ xs.length cap ((cur.toList.drop o).take xs.length) hlo
      (fun j u hj => by
        rw [List.getElem?_take] at hj
        split at hj
        · rw [List.getElem?_drop] at hj
          rw [Addr.add_lit, hb.cell]
          simpa using hj
        · cases hj) ⟨ga, 0, none⟩ 1 1 [.slice (some ⟨p, 0, none⟩) 4096 c] rfl hnews (by omega) (by unfold maxLen; omega) (by omega)
    rcases ho.2 with ⟨_, h0⟩ | ⟨g', cap', cur', rfl, hB, hg', hnc, hcm, hcs, ht⟩
    · omega
    have gr' : w.grownBy w' (some g) := { gr with block := fun i hi _ => gr.block i hi (by simp) }
    have cell : ∀ j, j < xs.length + 1 → cur'[0 + j]? = ((cur.toList.drop o).take xs.length ++ [.slice (some ⟨p, 0, none⟩) 4096 c])[j]? := by
      intro j hj
      rw [← ht, List.getElem?_take, if_pos (by omega), Nat.zero_add]
      simp
    have keep : ∀ q d y, RowB w q d y → RowB w' q d y := fun q d y hq => hq.same (gr.block q hq.lt (by simp))
    refine ⟨_, _, g', hr, ⟨0, cap', cur', by rw [List.length_append]; rfl, hg', by rw [List.length_append]; exact hnc, by omega, hcm, fun h => by have := hFlt _ h; omega, fun j hj => ?_⟩, gr', .inr hB⟩
    have hj' : j < xs.length + 1 := by rw [List.length_append] at hj; simpa using hj
    have ll : ((cur.toList.drop o).take xs.length).length = xs.length := by omega
    by_cases hjn : j < xs.length
    · obtain ⟨q, d, hc, hr5, hq⟩ := he j hjn
      refine ⟨q, d, ?_, ?_, hq⟩
      · rw [cell j hj', List.getElem?_append_left (by omega), List.getElem?_take, if_pos hjn, List.getElem?_drop]
        simpa using hc
      · rw [List.getElem_append_left hjn]
        exact keep q d _ hr5
    · have hje : j = xs.length := by omega
      subst hje
      refine ⟨p, c, ?_, ?_, hpF⟩
      · rw [cell _ hj', List.getElem?_append_right (by omega), ll]
        simp
      · rw [List.getElem_concat_length rfl]
        exact keep p c x hp
end Go.Proofs.Ytagnmmapnpcijaa
