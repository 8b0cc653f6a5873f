/-
  DkPile, DkSince, DkMadeDisk, DkMadeList, DkMadeWalk, DkRefD, DkRefOp, DkRefAt, DkRefImg, JStand, JAppOk, SWr, SPlain, SCrash: put together.
-/
import Derived.Test.YtkhejjddmbegaaaGreatG8
import Derived.ArgAppend
import Derived.Deep.Cut
import Derived.Deep.AppendLies
/-
  Slices of blocks' bytes, with a cut ahead of them and room behind; what an append does to them. Pick. What a crash that keeps all leaves.
-/
namespace Go.Proofs.YtkhejjddmbegaaaGreat.Dk
open Go.RowKit

theorem pick_at (x : Int) (n : Nat) (N : Int) (w : World) (hN : N = (n : Int)) (h0 : 0 < n) (hn : n ≤ 2000000) :
    Calls Tryz.prog 16 #[.int .i64 x, .int .i64 N] w fun e w' => ∃ p : Nat, p < n ∧ e = .returned (.int .i64 p) ∧ w = w' := by
  subst hN
  have h1 : x.tmod n < n := Int.tmod_lt_of_pos x (by omega)
  have h2 : -(n : Int) < x.tmod n := Int.lt_tmod_of_pos x (by omega)
  obtain ⟨y, hy⟩ : ∃ y, x.tmod n = y := ⟨_, rfl⟩
  rw [hy] at h1 h2
  go_enter Tryz.func16, Tryz.ntmps16
  go_wp2
  · go_ret
    exact ⟨(y + n).toNat, by omega, by
      have e : ((y + n).toNat : Int) = y + n := by omega
      rw [e]
      rfl, rfl⟩
  · go_ret
    exact ⟨y.toNat, by omega, by
      have e : (y.toNat : Int) = y := by omega
      rw [e]
      rfl, rfl⟩

/-- a crash that keeps all leaves the disk as it stood -/
theorem crashTo_all (ks : List Bool) (m : Nat) (uf : List (Nat × List UInt8)) (d : List UInt8) (hk : ∀ k, k < uf.length → keeps ks k = true) : ∀ k, k ≤ uf.length → crashTo ks (-1) m uf d k = carryTo uf d k
  | 0, _ => rfl
  | k + 1, h => by
    have ih := crashTo_all ks m uf d hk k (by omega)
    have hg : uf[k]? = some uf[k] := List.getElem?_eq_getElem (by omega)
    have ht : ¬ (k : Int) = -1 := by omega
    rw [crashTo, carryTo, hg]
    simp only [if_neg ht, hk k (by omega), if_true, ih]
theorem crash_all (D : DS) (ks : List Bool) (m : Nat) (hk : ∀ k, k < D.uf.length → keeps ks k = true) : (D.crash ks (-1) m).image = D.image := by
  show crashTo ks (-1) m D.uf D.dur D.uf.length = _
  rw [crashTo_all ks m D.uf D.dur hk _ (Nat.le_refl _)]
  rfl
theorem flush_crash (D : DS) (h : D.quiet) (ks : List Bool) (t : Int) (m : Nat) : (D.flush.crash ks t m).image = D.image ∧ (D.flush.crash ks t m).uf = [] := by
  rw [h.flush]
  exact ⟨rfl, rfl⟩

theorem info27 : (Tryz.prog.info? 41).map (fun i => (i.zero, i.size, i.bytes)) = some (some (.slice none 0 0), 1, 24) := by kernel_rfl

/-- blocks' bytes, one behind another: slices in block g; nothing of it in F -/
def Pile (w : World) (F : Nat → Prop) (g : Nat) (v : Value) (xs : List (List UInt8)) : Prop :=
  ∃ o cap cur, v = .slice (some ⟨g, o, none⟩) xs.length cap ∧ Box w g cur 41 ∧ xs.length ≤ cap ∧ o + cap ≤ cur.size ∧ cap ≤ maxLen ∧ ¬ F g ∧
    ∀ j (h : j < xs.length), ∃ p c, cur[o + j]? = some (.slice (some ⟨p, 0, none⟩) 4096 c) ∧ RowB w p c xs[j] ∧ ¬ F p

theorem Pile.kept {w w' : World} {F F' : Nat → Prop} {g : Nat} {v : Value} {xs : List (List UInt8)} (h : Pile w F g v xs) (hk : ∀ i, i < w.heap.size → ¬ F i → (i = g ∨ ∃ cur, Box w i cur 5) → w'.heap[i]? = w.heap[i]?) (hF : ∀ i, F' i → F i ∨ w.heap.size ≤ i) : Pile w' F' g v xs := by
  obtain ⟨o, cap, cur, hv, hb, h1, h2, h3, hn, he⟩ := h
  refine ⟨o, cap, cur, hv, (hk g hb.lt hn (.inl rfl)).trans hb, h1, h2, h3, fun h => by rcases hF g h with h | h; exact hn h; have := hb.lt; omega, fun j hj => ?_⟩
  obtain ⟨p, c, hc, hr, hp⟩ := he j hj
  have hlt := hr.lt
  have hr' := hr
  obtain ⟨cur5, hb5, _⟩ := hr'
  exact ⟨p, c, hc, hr.same (hk p hlt hp (.inr ⟨cur5, hb5⟩)), fun h => by rcases hF p h with h | h; exact hp h; omega⟩
theorem Pile.upd {w w' : World} {F F' : Nat → Prop} {g : Nat} {v : Value} {xs : List (List UInt8)} (h : Pile w F g v xs) (u : Upd F w w') (hF : ∀ i, F' i → F i ∨ w.heap.size ≤ i) : Pile w' F' g v xs :=
  h.kept (fun i hi hn _ => u.block i hi hn) hF
theorem Pile.below {w w' : World} {F : Nat → Prop} {g : Nat} {v : Value} {xs : List (List UInt8)} (h : Pile w F g v xs) (b : Below w.heap.size w w') : Pile w' F g v xs :=
  h.kept (fun i hi _ _ => b.block i hi) (fun _ h => .inl h)
/-- another block that holds no bytes is written -/
theorem Pile.other {w w' : World} {F : Nat → Prop} {g : Nat} {v : Value} {xs : List (List UInt8)} (h : Pile w F g v xs) {b : Nat} {cb : Array Value} {t : TypeId} (hb : Box w b cb t) (ht : t ≠ 5) (hg : g ≠ b) (gr : w.grownBy w' (some b)) : Pile w' F g v xs :=
  h.kept (fun i hi _ hc => gr.block i hi (fun e => by
    have e' : i = b := by simpa using e
    subst e'
    rcases hc with rfl | ⟨cur, hc⟩
    · exact hg rfl
    · exact hc.ne hb (fun h => ht h.symm) rfl)) (fun _ h => .inl h)

/-- one block more: in place, or all of it anew -/
theorem Pile.append {w : World} {F : Nat → Prop} {g : Nat} {v : Value} {xs : List (List UInt8)} (h : Pile w F g v xs) (ty : TypeId) (ga p c : Nat) (x : List UInt8) (hx : w.cell? ⟨ga, 0, none⟩ = some (.slice (some ⟨p, 0, none⟩) 4096 c)) (hp : RowB w p c x) (hpF : ¬ F p) (hFlt : ∀ i, F i → i < w.heap.size) (hn : xs.length ≤ 1000) :
    ∃ v' w' g', (Builtin.append_ #[52, 52] ty #[v, .slice (some ⟨ga, 0, none⟩) 1 1]).run Tryz.prog w = .ok v' w' ∧ Pile w' F g' v' (xs ++ [x]) ∧ w.grownBy w' (some g) ∧ (g' = g ∨ w.heap.size ≤ g') := by
  obtain ⟨i0, hi, hz0, hz1, hz2⟩ := info_parts info27
  obtain ⟨o, cap, cur, rfl, hb, h1, h2, h3, hgF, he⟩ := h
  have hnews : ∀ j u, ([.slice (some ⟨p, 0, none⟩) 4096 c] : List Value)[j]? = some u → w.cell? ((⟨ga, 0, none⟩ : Addr).add j) = some u := by
    intro j u hj
    match j, hj with
    | 0, hj => simpa [Addr.add] using hx.trans hj
  by_cases hroom : xs.length + 1 ≤ cap
  · have hlt : o + xs.length < cur.size := by omega
    have hr := run_append_room_cells (P := Tryz.prog) w 52 ty 41 i0 Tryz.underlying52 hi g o xs.length cap ⟨ga, 0, none⟩ 1 1 [.slice (some ⟨p, 0, none⟩) 4096 c] (by rw [hz1]; rfl) hnews (by simp [Value.oneCell']) hroom
      (fun j hj => by
        have : j = 0 := by simp at hj; omega
        subst this
        rw [hz1, Nat.mul_one, Nat.add_zero, hb.cell]
        simp [Array.getElem?_eq_getElem hlt])
      (fun j hj => hb.frozen _)
    rw [hz1, Nat.mul_one] at hr
    have gr : w.grownBy (w.setCell ⟨g, o + xs.length, none⟩ (.slice (some ⟨p, 0, none⟩) 4096 c)) (some g) := grown_store w g (o + xs.length) _
    have keep : ∀ q d y, RowB w q d y → RowB (w.setCell ⟨g, o + xs.length, none⟩ (.slice (some ⟨p, 0, none⟩) 4096 c)) q d y := by
      intro q d y hq
      have hlt := hq.lt
      have hq' := hq
      obtain ⟨cur5, hb5, _⟩ := hq'
      have hne : q ≠ g := hb5.ne hb (by decide)
      exact hq.same (gr.block q hlt (fun e => hne (by simpa using e)))
    refine ⟨_, _, g, hr, ⟨o, cap, _, by rw [List.length_append]; rfl, hb.store _ _, by rw [List.length_append]; exact hroom, by rw [Array.size_setIfInBounds]; exact h2, h3, hgF, fun j hj => ?_⟩, gr, .inl rfl⟩
    by_cases hjn : j < xs.length
    · obtain ⟨q, d, hc, hr5, hq⟩ := he j hjn
      refine ⟨q, d, ?_, ?_, hq⟩
      · rw [Array.getElem?_setIfInBounds, if_neg (by omega)]
        exact hc
      · rw [List.getElem_append_left hjn]
        exact keep q d _ hr5
    · have hje : j = xs.length := by rw [List.length_append] at hj; simp at hj; omega
      subst hje
      refine ⟨p, c, ?_, ?_, hpF⟩
      · rw [Array.getElem?_setIfInBounds, if_pos rfl, if_pos hlt]
      · rw [List.getElem_concat_length rfl]
        exact keep p c x hp
  · have hlo : ((cur.toList.drop o).take xs.length).length = xs.length * 1 := by simp; omega
    obtain ⟨v', w', hr, ho, gr⟩ := run_append_arg_grows (P := Tryz.prog) w 52 ty 41 i0 (.slice none 0 0) 1 24 Tryz.underlying52 hi hz0 hz1 hz2 rfl (by decide) ⟨g, o, none⟩ xs.length cap ((cur.toList.drop o).take xs.length) hlo
      (fun j u hj => by
        rw [List.getElem?_take] at hj
        split at hj
        · rw [List.getElem?_drop] at hj
          rw [Addr.add_lit, hb.cell]
          simpa using hj
        · cases hj) ⟨ga, 0, none⟩ 1 1 [.slice (some ⟨p, 0, none⟩) 4096 c] rfl hnews (by omega) (by unfold maxLen; omega) (by omega)
    rcases ho.2 with ⟨_, h0⟩ | ⟨g', cap', cur', rfl, hB, hg', hnc, hcm, hcs, ht⟩
    · omega
    have gr' : w.grownBy w' (some g) := { gr with block := fun i hi _ => gr.block i hi (by simp) }
    have cell : ∀ j, j < xs.length + 1 → cur'[0 + j]? = ((cur.toList.drop o).take xs.length ++ [.slice (some ⟨p, 0, none⟩) 4096 c])[j]? := by
      intro j hj
      rw [← ht, List.getElem?_take, if_pos (by omega), Nat.zero_add]
      simp
    have keep : ∀ q d y, RowB w q d y → RowB w' q d y := fun q d y hq => hq.same (gr.block q hq.lt (by simp))
    refine ⟨_, _, g', hr, ⟨0, cap', cur', by rw [List.length_append]; rfl, hg', by rw [List.length_append]; exact hnc, by omega, hcm, fun h => by have := hFlt _ h; omega, fun j hj => ?_⟩, gr', .inr hB⟩
    have hj' : j < xs.length + 1 := by rw [List.length_append] at hj; simpa using hj
    have ll : ((cur.toList.drop o).take xs.length).length = xs.length := by omega
    by_cases hjn : j < xs.length
    · obtain ⟨q, d, hc, hr5, hq⟩ := he j hjn
      refine ⟨q, d, ?_, ?_, hq⟩
      · rw [cell j hj', List.getElem?_append_left (by omega), List.getElem?_take, if_pos hjn, List.getElem?_drop]
        simpa using hc
      · rw [List.getElem_append_left hjn]
        exact keep q d _ hr5
    · have hje : j = xs.length := by omega
      subst hje
      refine ⟨p, c, ?_, ?_, hpF⟩
      · rw [cell _ hj', List.getElem?_append_right (by omega), ll]
        simp
      · rw [List.getElem_concat_length rfl]
        exact keep p c x hp
end Go.Proofs.YtkhejjddmbegaaaGreat.Dk

/-
  What every block was written since the last flush: four piles.
-/
namespace Go.Proofs.YtkhejjddmbegaaaGreat.Dk
open Go.RowKit

structure Since (w0 w : World) (F : Nat → Prop) (gs : Nat) (xf : Nat → List (List UInt8)) (gf : Nat → Nat) (vf : Nat → Value) : Prop where
  box : Box w gs #[vf 0, vf 1, vf 2, vf 3] 52
  gs0 : w0.heap.size ≤ gs
  gsF : ¬ F gs
  g0 : ∀ k, k < 4 → w0.heap.size ≤ gf k
  pile : ∀ k, k < 4 → Pile w F (gf k) (vf k) (xf k)
  one : ∀ k, k < 4 → 0 < (xf k).length
  apart : ∀ k, k < 4 → ∀ l, l < 4 → k ≠ l → gf k ≠ gf l

def at_ {α : Type} (f : Nat → α) (k : Nat) (x : α) : Nat → α := fun i => if i = k then x else f i
theorem at_same {α : Type} (f : Nat → α) (k : Nat) (x : α) : at_ f k x k = x := if_pos rfl
theorem at_other {α : Type} (f : Nat → α) (k i : Nat) (x : α) (h : i ≠ k) : at_ f k x i = f i := if_neg h

theorem Since.upd {w0 w w' : World} {F F' : Nat → Prop} {gs : Nat} {xf : Nat → List (List UInt8)} {gf : Nat → Nat} {vf : Nat → Value} (h : Since w0 w F gs xf gf vf) (u : Upd F w w') (hF : ∀ i, F' i → F i ∨ w.heap.size ≤ i) : Since w0 w' F' gs xf gf vf where
  box := (u.block gs h.box.lt h.gsF).trans h.box
  gs0 := h.gs0
  gsF := fun hf => by rcases hF gs hf with h1 | h1; exact h.gsF h1; have := h.box.lt; omega
  g0 := h.g0
  pile := fun k hk => (h.pile k hk).upd u hF
  one := h.one
  apart := h.apart
theorem Since.below {w0 w w' : World} {F : Nat → Prop} {gs : Nat} {xf : Nat → List (List UInt8)} {gf : Nat → Nat} {vf : Nat → Value} (h : Since w0 w F gs xf gf vf) (b : Below w.heap.size w w') : Since w0 w' F gs xf gf vf :=
  h.upd (Upd.of_below b) (fun _ h => .inl h)

theorem four_set (vf : Nat → Value) (k : Nat) (hk : k < 4) (v : Value) : (#[vf 0, vf 1, vf 2, vf 3] : Array Value).setIfInBounds k v = #[at_ vf k v 0, at_ vf k v 1, at_ vf k v 2, at_ vf k v 3] := by
  match k, hk with
  | 0, _ => rfl
  | 1, _ => rfl
  | 2, _ => rfl
  | 3, _ => rfl
theorem four_get (vf : Nat → Value) (k : Nat) (hk : k < 4) : (#[vf 0, vf 1, vf 2, vf 3] : Array Value)[k]? = some (vf k) := by
  match k, hk with
  | 0, _ => rfl
  | 1, _ => rfl
  | 2, _ => rfl
  | 3, _ => rfl
theorem Pile.box {w : World} {F : Nat → Prop} {g : Nat} {v : Value} {xs : List (List UInt8)} (h : Pile w F g v xs) : ∃ cur, Box w g cur 41 := by
  obtain ⟨o, cap, cur, _, hb, _⟩ := h
  exact ⟨cur, hb⟩

/-- a pile takes the place of one: in its block, or in a new one -/
theorem Since.put {w0 w w' : World} {F : Nat → Prop} {gs : Nat} {xf : Nat → List (List UInt8)} {gf : Nat → Nat} {vf : Nat → Value} (h : Since w0 w F gs xf gf vf) (k : Nat) (hk : k < 4) (g' : Nat) (v' : Value) (xs' : List (List UInt8)) (hp : Pile w' F g' v' xs') (gr : w.grownBy w' (some (gf k))) (hg : g' = gf k ∨ w.heap.size ≤ g') (h0 : 0 < xs'.length) (hsz : w0.heap.size ≤ w.heap.size) :
    Since w0 (w'.setCell ⟨gs, k, none⟩ v') F gs (at_ xf k xs') (at_ gf k g') (at_ vf k v') := by
  obtain ⟨ck, hbk⟩ := (h.pile k hk).box
  have hne : gs ≠ gf k := h.box.ne hbk (by decide)
  have box1 : Box w' gs #[vf 0, vf 1, vf 2, vf 3] 52 := (gr.block gs h.box.lt (fun e => hne (by simpa using e))).trans h.box
  have gr2 : w'.grownBy (w'.setCell ⟨gs, k, none⟩ v') (some gs) := grown_store w' gs k v'
  have lt : ∀ l, l < 4 → gf l < w.heap.size := fun l hl => by obtain ⟨c, hb⟩ := (h.pile l hl).box; exact hb.lt
  refine ⟨?_, h.gs0, h.gsF, fun l hl => ?_, fun l hl => ?_, fun l hl => ?_, fun l hl m hm hlm => ?_⟩
  · rw [← four_set vf k hk v']
    exact box1.store k v'
  · by_cases e : l = k
    · subst e
      rw [at_same]
      rcases hg with rfl | hg
      · exact h.g0 l hl
      · omega
    · rw [at_other _ _ _ _ e]
      exact h.g0 l hl
  · by_cases e : l = k
    · subst e
      rw [at_same, at_same, at_same]
      obtain ⟨c', hb'⟩ := hp.box
      exact hp.other box1 (by decide) (hb'.ne box1 (by decide)) gr2
    · rw [at_other _ _ _ _ e, at_other _ _ _ _ e, at_other _ _ _ _ e]
      have p1 := (h.pile l hl).other hbk (by decide) (h.apart l hl k hk e) gr
      obtain ⟨c', hb'⟩ := p1.box
      exact p1.other box1 (by decide) (hb'.ne box1 (by decide)) gr2
  · by_cases e : l = k
    · subst e
      rw [at_same]
      exact h0
    · rw [at_other _ _ _ _ e]
      exact h.one l hl
  · by_cases e : l = k
    · subst e
      rw [at_same, at_other _ _ _ _ (fun e => hlm e.symm)]
      rcases hg with rfl | hg
      · exact h.apart l hl m hm hlm
      · have := lt m hm; omega
    · rw [at_other _ _ _ _ e]
      by_cases e2 : m = k
      · subst e2
        rw [at_same]
        rcases hg with rfl | hg
        · exact h.apart l hl m hm hlm
        · have := lt l hl; omega
      · rw [at_other _ _ _ _ e2]
        exact h.apart l hl m hm hlm

/-- the last of a pile alone -/
theorem Pile.cut {w : World} {F : Nat → Prop} {g : Nat} {v : Value} {xs : List (List UInt8)} (h : Pile w F g v xs) (h0 : 0 < xs.length) :
    ∃ o cap, v = .slice (some ⟨g, o, none⟩) xs.length cap ∧ xs.length ≤ cap ∧ cap ≤ maxLen ∧ Pile w F g (.slice (some ⟨g, o + (xs.length - 1), none⟩) 1 (cap - (xs.length - 1))) [xs[xs.length - 1]'(by omega)] := by
  obtain ⟨o, cap, cur, rfl, hb, h1, h2, h3, hgF, he⟩ := h
  refine ⟨o, cap, rfl, h1, h3, o + (xs.length - 1), cap - (xs.length - 1), cur, rfl, hb, by simp; omega, by omega, by omega, hgF, fun j hj => ?_⟩
  have : j = 0 := by simp at hj; omega
  subst this
  obtain ⟨p, c, hc, hr, hp⟩ := he (xs.length - 1) (by omega)
  exact ⟨p, c, by rw [Nat.add_zero]; exact hc, hr, hp⟩

/-- a block's bytes: as they are durable, then each unflushed write of it -/
def sinceOf (D : DS) (k : Nat) : List (List UInt8) := blk D.dur k :: (D.uf.filter (fun w => w.1 == k)).map (·.2)
theorem sinceOf_write (D : DS) (b k : Nat) (x : List UInt8) : sinceOf { D with uf := D.uf ++ [(b, x)], n := D.n + 1 } k = if k = b then sinceOf D k ++ [x] else sinceOf D k := by
  unfold sinceOf
  simp only [List.filter_append, List.map_append]
  by_cases e : k = b
  · subst e
    simp
  · have : (b == k) = false := by simp; omega
    simp [this, e]
theorem blk_carryTo (uf : List (Nat × List UInt8)) (d : List UInt8) (nb k : Nat) (hk : k < nb) (hd : d.length = nb * 4096) (hu : ∀ w ∈ uf, w.1 < nb ∧ w.2.length = 4096) : ∀ n, n ≤ uf.length → (carryTo uf d n).length = nb * 4096 ∧ blk (carryTo uf d n) k = (lastOf uf k n).getD (blk d k)
  | 0, _ => ⟨hd, rfl⟩
  | n + 1, h => by
    obtain ⟨ih1, ih2⟩ := blk_carryTo uf d nb k hk hd hu n (by omega)
    have hg : uf[n]? = some uf[n] := List.getElem?_eq_getElem (by omega)
    obtain ⟨hw1, hw2⟩ := hu uf[n] (List.getElem_mem (by omega))
    have hfit : uf[n].1 * 4096 + 4096 ≤ (carryTo uf d n).length := by rw [ih1]; omega
    rw [carryTo, lastOf, hg]
    refine ⟨?_, ?_⟩
    · show (carry (carryTo uf d n) uf[n].1 uf[n].2 255).length = _
      rw [carry_length _ _ _ _ hfit hw2, ih1]
    · show blk (carry (carryTo uf d n) uf[n].1 uf[n].2 255) k = (if uf[n].1 = k then some uf[n].2 else lastOf uf k n).getD (blk d k)
      by_cases e : uf[n].1 = k
      · rw [if_pos e, ← e, blk_carry_all _ _ _ hfit hw2]
        rfl
      · rw [if_neg e, blk_carry_other _ _ _ _ _ hfit hw2 (fun h => e h.symm), ih2]
end Go.Proofs.YtkhejjddmbegaaaGreat.Dk

/-
  The walk of made: a disk behind some writes and flushes, and what every block was written since.
-/
namespace Go.Proofs.YtkhejjddmbegaaaGreat.Dk
open Go.RowKit

theorem last_lastOf (uf : List (Nat × List UInt8)) (d : List UInt8) (k : Nat) : ∀ n, n ≤ uf.length → (d :: ((uf.take n).filter (fun w => w.1 == k)).map (·.2)).getLast? = some ((lastOf uf k n).getD d)
  | 0, _ => rfl
  | n + 1, h => by
    have ih := last_lastOf uf d k n (by omega)
    have hg : uf[n]? = some uf[n] := List.getElem?_eq_getElem (by omega)
    have e1 : uf.take (n + 1) = uf.take n ++ [uf[n]] := by rw [List.take_add_one, hg]; rfl
    rw [lastOf, hg]
    show _ = some ((if uf[n].1 = k then some uf[n].2 else lastOf uf k n).getD d)
    generalize uf[n] = x at e1 hg ⊢
    obtain ⟨x1, x2⟩ := x
    by_cases e : x1 = k
    · have hb : (x1 == k) = true := by simpa using e
      have e2 : ((uf.take (n + 1)).filter (fun w => w.1 == k)).map (·.2) = ((uf.take n).filter (fun w => w.1 == k)).map (·.2) ++ [x2] := by
        rw [e1, List.filter_append, List.map_append, List.filter_cons_of_pos (p := fun w : Nat × List UInt8 => w.1 == k) (a := (x1, x2)) hb]
        rfl
      rw [if_pos e, e2, ← List.cons_append, List.getLast?_concat]
      rfl
    · have hb : ¬ (x1 == k) = true := by simpa using e
      have e2 : (uf.take (n + 1)).filter (fun w => w.1 == k) = (uf.take n).filter (fun w => w.1 == k) := by
        rw [e1, List.filter_append, List.filter_cons_of_neg (p := fun w : Nat × List UInt8 => w.1 == k) (a := (x1, x2)) hb]
        simp
      rw [if_neg e, e2, ih]
theorem sinceOf_last (D : DS) (k : Nat) (hk : k < D.nb) (ok : D.Ok) (h : (sinceOf D k).length - 1 < (sinceOf D k).length) : (sinceOf D k)[(sinceOf D k).length - 1] = blk D.image k := by
  have h1 := last_lastOf D.uf (blk D.dur k) k D.uf.length (Nat.le_refl _)
  rw [List.take_length] at h1
  have h2 := (blk_carryTo D.uf D.dur D.nb k hk ok.len ok.each D.uf.length (Nat.le_refl _)).2
  show _ = blk (carryTo D.uf D.dur D.uf.length) k
  rw [h2]
  have h3 : (sinceOf D k).getLast? = some ((lastOf D.uf k D.uf.length).getD (blk D.dur k)) := h1
  rw [List.getLast?_eq_getElem?, List.getElem?_eq_getElem h] at h3
  exact Option.some.inj h3
theorem sinceOf_flush (D : DS) (k : Nat) : sinceOf { D with dur := D.image, uf := [] } k = [blk D.image k] := rfl

/-- the disk and the piles, as made keeps them -/
def MRel (w0 w : World) (g gs : Nat) (i : Nat) : Prop := ∃ D F gf vf, IsDisk w g D F ∧ (∀ j, F j → w0.heap.size ≤ j) ∧ Below w0.heap.size w0 w ∧ Since w0 w F gs (sinceOf D) gf vf ∧ D.quiet ∧ D.nb = 4 ∧ D.uf.length ≤ i ∧ D.n ≤ i
end Go.Proofs.YtkhejjddmbegaaaGreat.Dk

/-
  made's list: as it is laid, as it is cut.
-/
namespace Go.Proofs.YtkhejjddmbegaaaGreat.Dk
open Go.RowKit

/-- the first k of the four piles, a block's bytes each -/
structure SK (w0 w : World) (F : Nat → Prop) (gs k : Nat) (x : List UInt8) (gf : Nat → Nat) (vf : Nat → Value) : Prop where
  box : Box w gs #[vf 0, vf 1, vf 2, vf 3] 52
  gsF : ¬ F gs
  gs0 : w0.heap.size ≤ gs
  g0 : ∀ i, i < k → w0.heap.size ≤ gf i
  pile : ∀ i, i < k → Pile w F (gf i) (vf i) [x]
  apart : ∀ i, i < k → ∀ j, j < k → i ≠ j → gf i ≠ gf j

theorem SK.step {w0 w w1 : World} {F : Nat → Prop} {gs k : Nat} {x : List UInt8} {gf : Nat → Nat} {vf : Nat → Value} (h : SK w0 w F gs k x gf vf) (hk : k < 4) (hx : x.length = 4096) (b : Below w.heap.size w w1) (ga : Nat) (o : Own w1 ga x) (hga : w.heap.size ≤ ga) (hsz : w0.heap.size ≤ w.heap.size) (hFlt : ∀ i, F i → i < w.heap.size) :
    SK w0 ((w1.alloc (.cells #[.slice (some ⟨ga, 0, none⟩) 4096 4096] 41)).setCell ⟨gs, k, none⟩ (.slice (some ⟨w1.heap.size, 0, none⟩) 1 1)) F gs (k + 1) x (at_ gf k w1.heap.size) (at_ vf k (.slice (some ⟨w1.heap.size, 0, none⟩) 1 1)) := by
  obtain ⟨W, hW⟩ : ∃ W, W = w1.alloc (.cells #[.slice (some ⟨ga, 0, none⟩) 4096 4096] 41) := ⟨_, rfl⟩
  rw [← hW]
  have bA : Below w1.heap.size w1 W := by rw [hW]; exact (Below.refl _ _).alloc (Nat.le_refl _) _
  have bW : Below w.heap.size w W := b.trans (bA.mono b.size)
  have nb : Box W w1.heap.size #[.slice (some ⟨ga, 0, none⟩) 4096 4096] 41 := by rw [hW]; exact Box.new _ _ _
  have oW : Own W ga x := o.below bA o.lt
  have box1 : Box W gs #[vf 0, vf 1, vf 2, vf 3] 52 := h.box.below bW
  have gr := grown_store W gs k (.slice (some ⟨w1.heap.size, 0, none⟩) 1 1)
  have lt : ∀ i, i < k → gf i < w.heap.size := fun i hi => by obtain ⟨c, hb⟩ := (h.pile i hi).box; exact hb.lt
  have z1 := b.size
  refine ⟨?_, h.gsF, h.gs0, fun i hi => ?_, fun i hi => ?_, fun i hi j hj hij => ?_⟩
  · rw [← four_set vf k hk]
    exact box1.store k _
  · by_cases e : i = k
    · subst e; rw [at_same]; omega
    · rw [at_other _ _ _ _ e]; exact h.g0 i (by omega)
  · by_cases e : i = k
    · subst e
      rw [at_same, at_same]
      have hm : x.length ≤ maxLen := by unfold maxLen; omega
      have hp : Pile W F w1.heap.size (.slice (some ⟨w1.heap.size, 0, none⟩) 1 1) [x] :=
        ⟨0, 1, _, rfl, nb, by simp, by simp, by unfold maxLen; omega, fun hf => by have := hFlt _ hf; omega, fun j hj => by
          have : j = 0 := by simp at hj; omega
          subst this
          refine ⟨ga, 4096, rfl, ?_, fun hf => by have := hFlt _ hf; omega⟩
          have := RowB.own oW hm
          rw [hx] at this
          exact this⟩
      exact hp.other box1 (by decide) (nb.ne box1 (by decide)) gr
    · rw [at_other _ _ _ _ e, at_other _ _ _ _ e]
      have p1 := (h.pile i (by omega)).below bW
      obtain ⟨c', hb'⟩ := p1.box
      exact p1.other box1 (by decide) (hb'.ne box1 (by decide)) gr
  · by_cases e : i = k
    · subst e
      rw [at_same, at_other _ _ _ _ (fun e => hij e.symm)]
      have := lt j (by omega)
      omega
    · rw [at_other _ _ _ _ e]
      by_cases e2 : j = k
      · subst e2
        rw [at_same]
        have := lt i (by omega)
        omega
      · rw [at_other _ _ _ _ e2]
        exact h.apart i (by omega) j (by omega) hij

theorem SK.since {w0 w : World} {F : Nat → Prop} {gs : Nat} {x : List UInt8} {gf : Nat → Nat} {vf : Nat → Value} (h : SK w0 w F gs 4 x gf vf) (xf : Nat → List (List UInt8)) (hx : ∀ k, k < 4 → xf k = [x]) : Since w0 w F gs xf gf vf where
  box := h.box
  gs0 := h.gs0
  gsF := h.gsF
  g0 := h.g0
  pile := fun k hk => by rw [hx k hk]; exact h.pile k hk
  one := fun k hk => by rw [hx k hk]; simp
  apart := h.apart

theorem Since.congr {w0 w : World} {F : Nat → Prop} {gs : Nat} {xf xf' : Nat → List (List UInt8)} {gf : Nat → Nat} {vf : Nat → Value} (h : Since w0 w F gs xf gf vf) (e : ∀ k, k < 4 → xf' k = xf k) : Since w0 w F gs xf' gf vf where
  box := h.box
  gs0 := h.gs0
  gsF := h.gsF
  g0 := h.g0
  pile := fun k hk => by rw [e k hk]; exact h.pile k hk
  one := fun k hk => by rw [e k hk]; exact h.one k hk
  apart := h.apart

/-- the first k cut to their last -/
def cutTo (D : DS) (k : Nat) : Nat → List (List UInt8) := fun i => if i < k then [blk D.image i] else sinceOf D i
theorem cutTo_zero (D : DS) : cutTo D 0 = sinceOf D := by funext i; simp [cutTo]

theorem Since.cutOne {w0 w : World} {F : Nat → Prop} {gs : Nat} {D : DS} {k : Nat} {gf : Nat → Nat} {vf : Nat → Value} (h : Since w0 w F gs (cutTo D k) gf vf) (hk : k < 4) (hnb : D.nb = 4) (ok : D.Ok) (hsz : w0.heap.size ≤ w.heap.size) :
    ∃ g o L cap, vf k = .slice (some ⟨g, o, none⟩) L cap ∧ 0 < L ∧ L ≤ cap ∧ cap ≤ maxLen ∧
      Since w0 (w.setCell ⟨gs, k, none⟩ (.slice (some ⟨g, o + (L - 1), none⟩) 1 (cap - (L - 1)))) F gs (cutTo D (k + 1)) gf (at_ vf k (.slice (some ⟨g, o + (L - 1), none⟩) 1 (cap - (L - 1)))) := by
  have e : cutTo D k k = sinceOf D k := if_neg (Nat.lt_irrefl _)
  have hp := h.pile k hk
  have h0 := h.one k hk
  rw [e] at hp h0
  obtain ⟨o, cap, hv, hc, hm, hp'⟩ := hp.cut h0
  refine ⟨gf k, o, _, cap, hv, h0, hc, hm, ?_⟩
  rw [sinceOf_last D k (by omega) ok] at hp'
  have := h.put k hk (gf k) _ [blk D.image k] hp' (World.grownBy.refl _ _) (.inl rfl) (by simp) hsz
  have e1 : at_ gf k (gf k) = gf := by
    funext i
    by_cases q : i = k
    · subst q; rw [at_same]
    · rw [at_other _ _ _ _ q]
  rw [e1] at this
  refine this.congr fun i _ => ?_
  by_cases q : i = k
  · subst q
    rw [at_same]
    exact if_pos (Nat.lt_succ_self _)
  · rw [at_other _ _ _ _ q]
    show (if i < k + 1 then _ else _) = if i < k then _ else _
    by_cases q2 : i < k
    · rw [if_pos (by omega), if_pos q2]
    · rw [if_neg (by omega), if_neg q2]

theorem IsDisk.storeOut {w : World} {g : Nat} {D : DS} {F : Nat → Prop} (h : IsDisk w g D F) (gs k : Nat) (v : Value) (hg : ¬ F gs) : IsDisk (w.setCell ⟨gs, k, none⟩ v) g D F :=
  h.kept (fun i hi => heap_setCell_other w ⟨gs, k, none⟩ i v (fun e => hg (by subst e; exact hi))) (by simp)
end Go.Proofs.YtkhejjddmbegaaaGreat.Dk

/-
  The walk of made.
-/
namespace Go.Proofs.YtkhejjddmbegaaaGreat.Dk
open Go.RowKit

/-- an append whose run is known, in the walk -/
theorem wpList_append_ran {w : World} {ops : Array Oper} {rest : List Oper} {o : Oper} {a : Act} {Q : Exit → Act → World → Prop} (hgd : o.guard = none) (sl x : Operand) (t u : TypeId)
    (ho : o.op = .call { callee := .builtin .append, args := #[sl, x], argTypes := #[t, u] }) (v s v' : Value) (W : World) (hs : a.eval sl = v) (hx : a.eval x = s)
    (hrun : (Builtin.append_ #[t, u] o.type #[v, s]).run Tryz.prog w = .ok v' W) (h : wpList Tryz.prog ops Q rest (a.put o.dst v') W) : wpList Tryz.prog ops Q (o :: rest) a w := by
  refine wpList_plain hgd fun K hK => ?_
  unfold Oper.wp execOp
  simp only [ho, resolve, invoke, builtin, Sem.run_bind, Sem.run_pure, Result.andThen_ok, List.map_toArray, List.map_cons, List.map_nil, hs, hx, hrun]
  exact hK _ _ h

theorem MRel.mono {w0 w : World} {g gs i j : Nat} (h : MRel w0 w g gs i) (hij : i ≤ j) : MRel w0 w g gs j := by
  obtain ⟨D, F, gf, vf, h1, h2, h3, h4, h5, h6, h7, h8⟩ := h
  exact ⟨D, F, gf, vf, h1, h2, h3, h4, h5, h6, by omega, by omega⟩
theorem sinceOf_length (D : DS) (k : Nat) : (sinceOf D k).length ≤ D.uf.length + 1 := by
  unfold sinceOf
  simp only [List.length_cons, List.length_map]
  have := List.length_filter_le (fun w : Nat × List UInt8 => w.1 == k) D.uf
  omega

theorem info46 : (Tryz.prog.info? 52).map (fun i => (i.zero, i.size, i.bytes)) = some (some (.slice none 0 0), 1, 24) := by kernel_rfl
end Go.Proofs.YtkhejjddmbegaaaGreat.Dk

/-
  The document's own disk, in memory: blocks' bytes and writes, all in blocks that Q allows.
-/
namespace Go.Proofs.YtkhejjddmbegaaaGreat.Dk
open Go.RowKit

/-- a block's bytes -/
def BlkAt (w : World) (Q : Nat → Prop) (v : Value) (xs : List UInt8) : Prop :=
  ∃ p o c, v = .slice (some ⟨p, o, none⟩) 4096 c ∧ 4096 ≤ c ∧ c ≤ maxLen ∧ Q p ∧ (∃ cur, Box w p cur 5) ∧ xs.length = 4096 ∧ ∀ j (h : j < xs.length), w.cell? ⟨p, o + j, none⟩ = some (.int .u8 (xs[j].toNat : Int))
/-- blocks' bytes, one behind another -/
def SafeAt (w : World) (Q : Nat → Prop) (a : Option Addr) (n c : Nat) (bs : List (List UInt8)) : Prop :=
  bs.length = n ∧ n ≤ c ∧ c ≤ maxLen ∧ ∃ g o, a = some ⟨g, o, none⟩ ∧ Q g ∧ (∃ cur, Box w g cur 41) ∧ ∀ j x, bs[j]? = some x → ∃ u, w.cell? ⟨g, o + j, none⟩ = some u ∧ BlkAt w Q u x
/-- writes, one behind another -/
def WrAt (w : World) (Q : Nat → Prop) (a : Option Addr) (n c : Nat) (ws : List (Nat × List UInt8)) : Prop :=
  ws.length = n ∧ n ≤ c ∧ c ≤ maxLen ∧ (n = 0 → a = none ∧ c = 0) ∧ (0 < n → ∃ g o, a = some ⟨g, o, none⟩ ∧ Q g ∧ (∃ cur, Box w g cur 108) ∧ ∀ j x, ws[j]? = some x → w.cell? ⟨g, o + j * 2, none⟩ = some (.int .i64 (x.1 : Int)) ∧ ∃ u, w.cell? ⟨g, o + j * 2 + 1, none⟩ = some u ∧ BlkAt w Q u x.2)

theorem BlkAt.move {w w' : World} {Q Q' : Nat → Prop} {v : Value} {xs : List UInt8} (h : BlkAt w Q v xs) (hk : ∀ i, i < w.heap.size → Q i → (∃ cur t, Box w i cur t ∧ t ≠ 54) → w'.heap[i]? = w.heap[i]?) (hQ : ∀ i, i < w.heap.size → Q i → Q' i) : BlkAt w' Q' v xs := by
  obtain ⟨p, o, c, hv, h1, h2, hq, ⟨cur, hb⟩, hl, hc⟩ := h
  have lt : p < w.heap.size := hb.lt
  have e := hk p lt hq ⟨cur, 5, hb, by decide⟩
  exact ⟨p, o, c, hv, h1, h2, hQ p lt hq, ⟨cur, e.trans hb⟩, hl, fun j hj => (World.cell?_of_block (a := ⟨p, o + j, none⟩) e).trans (hc j hj)⟩
theorem BlkAt.rd {w : World} {Q : Nat → Prop} {a : Option Addr} {n c : Nat} {xs : List UInt8} (h : BlkAt w Q (.slice a n c) xs) : n = 4096 ∧ Rd w a xs ∧ xs.length = 4096 ∧ 4096 ≤ c ∧ c ≤ maxLen := by
  obtain ⟨p, o, c', hv, h1, h2, hq, _, hl, hc⟩ := h
  cases hv
  exact ⟨rfl, fun _ => ⟨p, o, rfl, hc⟩, hl, h1, h2⟩
theorem BlkAt.of_row {w : World} {Q : Nat → Prop} {g c : Nat} {xs : List UInt8} (h : RowB w g c xs) (hl : xs.length = 4096) (hq : Q g) : BlkAt w Q (.slice (some ⟨g, 0, none⟩) 4096 c) xs := by
  have hr := h.rd
  obtain ⟨cur, hb, h1, h2, h3, _⟩ := h
  obtain ⟨b, o, e, hc⟩ := hr (by omega)
  cases e
  exact ⟨g, 0, c, rfl, by omega, h2, hq, ⟨cur, hb⟩, hl, hc⟩
theorem SafeAt.move {w w' : World} {Q Q' : Nat → Prop} {a : Option Addr} {n c : Nat} {bs : List (List UInt8)} (h : SafeAt w Q a n c bs) (hk : ∀ i, i < w.heap.size → Q i → (∃ cur t, Box w i cur t ∧ t ≠ 54) → w'.heap[i]? = w.heap[i]?) (hQ : ∀ i, i < w.heap.size → Q i → Q' i) : SafeAt w' Q' a n c bs := by
  obtain ⟨h1, h2, h3, g, o, ha, hq, ⟨cur, hb⟩, hc⟩ := h
  have lt : g < w.heap.size := hb.lt
  have e := hk g lt hq ⟨cur, 41, hb, by decide⟩
  refine ⟨h1, h2, h3, g, o, ha, hQ g lt hq, ⟨cur, e.trans hb⟩, fun j x hx => ?_⟩
  obtain ⟨u, hu, hb⟩ := hc j x hx
  exact ⟨u, (World.cell?_of_block (a := ⟨g, o + j, none⟩) e).trans hu, hb.move hk hQ⟩
theorem WrAt.move {w w' : World} {Q Q' : Nat → Prop} {a : Option Addr} {n c : Nat} {ws : List (Nat × List UInt8)} (h : WrAt w Q a n c ws) (hk : ∀ i, i < w.heap.size → Q i → (∃ cur t, Box w i cur t ∧ t ≠ 54) → w'.heap[i]? = w.heap[i]?) (hQ : ∀ i, i < w.heap.size → Q i → Q' i) : WrAt w' Q' a n c ws := by
  obtain ⟨h1, h2, h3, hz, h4⟩ := h
  refine ⟨h1, h2, h3, hz, fun h0 => ?_⟩
  obtain ⟨g, o, ha, hq, ⟨cur, hb⟩, hc⟩ := h4 h0
  have lt : g < w.heap.size := hb.lt
  have e := hk g lt hq ⟨cur, 108, hb, by decide⟩
  refine ⟨g, o, ha, hQ g lt hq, ⟨cur, e.trans hb⟩, fun j x hx => ?_⟩
  obtain ⟨h5, u, hu, hb⟩ := hc j x hx
  exact ⟨(World.cell?_of_block (a := ⟨g, o + j * 2, none⟩) e).trans h5, u, (World.cell?_of_block (a := ⟨g, o + j * 2 + 1, none⟩) e).trans hu, hb.move hk hQ⟩

/-- what is durable, block by block -/
def safeOf (D : DS) : List (List UInt8) := (List.range D.nb).map (blk D.dur)
theorem safeOf_length (D : DS) : (safeOf D).length = D.nb := by simp [safeOf]
theorem safeOf_get (D : DS) (n : Nat) (h : n < D.nb) : (safeOf D)[n]? = some (blk D.dur n) := by simp [safeOf, h]
/-- the document's disk: its two lists -/
structure RD (w : World) (Q : Nat → Prop) (ad aw : Option Addr) (ns cs nw cw : Nat) (D : DS) : Prop where
  safe : SafeAt w Q ad ns cs (safeOf D)
  wr : WrAt w Q aw nw cw D.uf
  ok : D.Ok
theorem RD.ns {w : World} {Q : Nat → Prop} {ad aw : Option Addr} {ns cs nw cw : Nat} {D : DS} (h : RD w Q ad aw ns cs nw cw D) : ns = D.nb := by have := h.safe.1; rw [safeOf_length] at this; omega
theorem RD.nw {w : World} {Q : Nat → Prop} {ad aw : Option Addr} {ns cs nw cw : Nat} {D : DS} (h : RD w Q ad aw ns cs nw cw D) : nw = D.uf.length := by have := h.wr.1; omega
theorem RD.move {w w' : World} {Q Q' : Nat → Prop} {ad aw : Option Addr} {ns cs nw cw : Nat} {D : DS} (h : RD w Q ad aw ns cs nw cw D) (hk : ∀ i, i < w.heap.size → Q i → (∃ cur t, Box w i cur t ∧ t ≠ 54) → w'.heap[i]? = w.heap[i]?) (hQ : ∀ i, i < w.heap.size → Q i → Q' i) : RD w' Q' ad aw ns cs nw cw D :=
  ⟨h.safe.move hk hQ, h.wr.move hk hQ, h.ok⟩
theorem RD.below {w w' : World} {Q : Nat → Prop} {ad aw : Option Addr} {ns cs nw cw : Nat} {D : DS} (h : RD w Q ad aw ns cs nw cw D) (b : Below w.heap.size w w') : RD w' Q ad aw ns cs nw cw D := h.move (fun i hi _ _ => b.block i hi) (fun _ _ h => h)
theorem RD.upd {w w' : World} {F F' : Nat → Prop} {ad aw : Option Addr} {ns cs nw cw : Nat} {D : DS} (h : RD w (fun i => ¬ F i) ad aw ns cs nw cw D) (u : Upd F w w') (hF : ∀ i, F' i → F i ∨ w.heap.size ≤ i) : RD w' (fun i => ¬ F' i) ad aw ns cs nw cw D :=
  h.move (fun i hi hn _ => u.block i hi hn) (fun i hi hn hf => by rcases hF i hf with h | h; exact hn h; omega)

/-- a box of the law's is written -/
theorem RD.store {w : World} {Q : Nat → Prop} {ad aw : Option Addr} {ns cs nw cw : Nat} {D : DS} (h : RD w Q ad aw ns cs nw cw D) {g j : Nat} {v : Value} {cb : Array Value} (hb : Box w g cb 54) : RD (w.setCell ⟨g, j, none⟩ v) Q ad aw ns cs nw cw D :=
  h.move (fun i _ _ ⟨_, _, hi, ht⟩ => heap_setCell_other w ⟨g, j, none⟩ i v (fun e => hi.ne hb ht e)) (fun _ _ h => h)

def fuseI (f : Fuse) : Int := if f.set then (f.left : Int) else -1
def opA (dn : Bool) (a : Int) : Int := if dn then a else if 0 ≤ a then a - 1 else a
def opE (dn : Bool) (am fl : Int) : Int := if dn then 6 else if am = 0 then 6 else if fl = 0 then 4 else 0
theorem opE_D (D : DS) : opE D.gone (fuseI D.arm) (fuseI D.fail) = (D.operE : Int) := by
  unfold opE DS.operE fuseI Fuse.stops
  cases D.gone <;> simp
  cases h1 : D.arm.set <;> cases h2 : D.fail.set <;> simp
  · by_cases e : D.fail.left = 0 <;> simp [e]
  · by_cases e : D.arm.left = 0 <;> simp [e]
  · by_cases e : D.arm.left = 0 <;> by_cases e' : D.fail.left = 0 <;> simp [e, e']
theorem opA_D (D : DS) (f : Fuse) : opA D.gone (fuseI f) = fuseI (if D.gone then f else f.then) := by
  unfold opA fuseI Fuse.then
  cases D.gone <;> simp
  cases h : f.set <;> simp [h]
  by_cases e : f.left = 0
  · simp [e]
  · have : 0 < f.left := by omega
    simp [this]
    omega
theorem opD_D (D : DS) : (D.gone || (fuseI D.arm == 0)) = D.oper.gone := by
  unfold DS.oper fuseI
  cases h : D.gone
  · simp [Fuse.stops]
    cases h1 : D.arm.set <;> simp
    by_cases e : D.arm.left = 0 <;> simp [e]
  · simp [h]
theorem oper_arm (D : DS) : D.oper.arm = if D.gone then D.arm else D.arm.then := by unfold DS.oper; cases h : D.gone <;> simp
theorem oper_fail (D : DS) : D.oper.fail = if D.gone then D.fail else D.fail.then := by unfold DS.oper; cases h : D.gone <;> simp
theorem fuseI_lo (f : Fuse) : -1 ≤ fuseI f := by unfold fuseI; split <;> omega
theorem fuseI_hi (f : Fuse) (h : f.left < 9223372036854775808) : fuseI f ≤ 9223372036854775807 := by unfold fuseI; split <;> omega
end Go.Proofs.YtkhejjddmbegaaaGreat.Dk

/-
  The document's disk: operation, Armed, Failing, At, Read.
-/
namespace Go.Proofs.YtkhejjddmbegaaaGreat.Dk
open Go.RowKit

theorem Box.drewN {w : World} {g : Nat} {cs : Array Value} {t : TypeId} (h : Box w g cs t) (n : Nat) : Box (w.drewN n) g cs t := h
theorem below_drewN {B : Nat} {a w : World} (h : Below B a w) (n : Nat) : Below B a (w.drewN n) := ⟨h.os, h.tape, h.output, h.size, h.block⟩
theorem Box.all6 {w : World} {g : Nat} {v0 v1 v2 v3 v4 v5 : Value} {t : TypeId} (h : Box w g #[v0, v1, v2, v3, v4, v5] t) : w.cell? ⟨g, 0, none⟩ = some v0 ∧ w.cell? ⟨g, 1, none⟩ = some v1 ∧ w.cell? ⟨g, 2, none⟩ = some v2 ∧ w.cell? ⟨g, 3, none⟩ = some v3 ∧ w.cell? ⟨g, 4, none⟩ = some v4 ∧ w.cell? ⟨g, 5, none⟩ = some v5 :=
  ⟨h.cell 0, h.cell 1, h.cell 2, h.cell 3, h.cell 4, h.cell 5⟩
theorem Box.fr6 {w : World} {g : Nat} {cs : Array Value} {t : TypeId} (h : Box w g cs t) : w.frozen? ⟨g, 0, none⟩ = false ∧ w.frozen? ⟨g, 1, none⟩ = false ∧ w.frozen? ⟨g, 2, none⟩ = false ∧ w.frozen? ⟨g, 3, none⟩ = false ∧ w.frozen? ⟨g, 4, none⟩ = false ∧ w.frozen? ⟨g, 5, none⟩ = false :=
  ⟨h.frozen 0, h.frozen 1, h.frozen 2, h.frozen 3, h.frozen 4, h.frozen 5⟩

end Go.Proofs.YtkhejjddmbegaaaGreat.Dk

/-
  The document's disk: Armed, Failing, At, Read.
-/
namespace Go.Proofs.YtkhejjddmbegaaaGreat.Dk
open Go.RowKit

set_option maxRecDepth 100000 in
theorem rat_at {w : World} {Q : Nat → Prop} {a1 a2 : Option Addr} {n1 c1 n2 c2 : Nat} {D : DS} (h : RD w Q a1 a2 n1 c1 n2 c2 D) (cnt am fl : Int) (dn : Bool) (n : Nat) (hn : n < D.nb) :
    Calls Tryz.prog 42 #[.agg #[.slice a1 n1 c1, .slice a2 n2 c2, .int .i64 cnt, .bool dn, .int .i64 am, .int .i64 fl], .int .i64 n] w fun r w' =>
      ∃ p o c, r = .returned (.slice (some ⟨p, o, none⟩) 4096 c) ∧ BlkAt w' Q (.slice (some ⟨p, o, none⟩) 4096 c) (D.stand n) ∧ Below w.heap.size w w' := by
  have B0 := (Below.refl w.heap.size w).alloc (Nat.le_refl _) (.cells #[.slice a1 n1 c1, .slice a2 n2 c2, .int .i64 cnt, .bool dn, .int .i64 am, .int .i64 fl] 54)
  have x0 := Box.new w #[.slice a1 n1 c1, .slice a2 n2 c2, .int .i64 cnt, .bool dn, .int .i64 am, .int .i64 fl] 54
  have R0 := h.below B0
  obtain ⟨W, hW⟩ : ∃ W, W = w.alloc (.cells #[.slice a1 n1 c1, .slice a2 n2 c2, .int .i64 cnt, .bool dn, .int .i64 am, .int .i64 fl] 54) := ⟨_, rfl⟩
  rw [← hW] at B0 x0 R0
  obtain ⟨p0, p1, p2, p3, p4, p5⟩ := x0.all6
  have e1 := h.ns
  have e2 := h.nw
  obtain ⟨sl, sc, sm, g, o, rfl, hq, _, hcell⟩ := R0.safe
  obtain ⟨u, hu, hb⟩ := hcell n _ (safeOf_get D n hn)
  obtain ⟨bp, bo, bc, rfl, hb1⟩ := id hb
  have hnn : (n : Int) < (n1 : Int) := by omega
  have hwr := R0.wr
  have Hw : Hid _ := hwr
  have Hb : Hid _ := hb
  have HW : Hid _ := hW
  have He : Hid _ := e2
  have hn2 : n2 ≤ 9223372036854775807 := by have := hwr.2.2.1; have := hwr.2.1; unfold maxLen at *; omega
  have hn1 : n1 ≤ 9223372036854775807 := by unfold maxLen at sm; omega
  clear hcell hwr hb hb1 hW e2 h R0 sl sc sm e1
  go_enter Tryz.func42, Tryz.ntmps42
  go_upto_region 1 with fail
  rw [← HW.out]
  go_wp2_with fail
  go_loopw [5, 6] (fun v i wr => ∃ (k p' o' c' : Nat), k ≤ n2 ∧ v = .slice (some ⟨p', o', none⟩) 4096 c' ∧ i = .int .i64 k ∧ W = wr ∧ BlkAt W Q (.slice (some ⟨p', o', none⟩) 4096 c') ((lastOf D.uf n k).getD (blk D.dur n))) (fun _ i _ => n2 - (intOf i).toNat)
  case atStart => exact ⟨0, bp, bo, bc, by omega, rfl, rfl, rfl, Hb.out⟩
  case round =>
    clear Hb
    obtain ⟨k, p', o', c', hk, rfl, rfl, rfl, hB⟩ := hrel
    have HB : Hid _ := hB
    clear hB
    by_cases hlt : k < n2
    · have hlt2 : (k : Int) < (n2 : Int) := by omega
      obtain ⟨gw, ow, rfl, hqw, _, hcw⟩ := Hw.out.2.2.2.2 (by omega)
      have hku : k < D.uf.length := by rw [← He.out]; exact hlt
      obtain ⟨ca, ub, cb, hbw⟩ := hcw k _ (List.getElem?_eq_getElem hku)
      obtain ⟨wp, wo, wc, rfl, hbw1⟩ := id hbw
      have hstep : Hid (lastOf D.uf n (k + 1) = if D.uf[k].1 = n then some D.uf[k].2 else lastOf D.uf n k) := by
        show _ = _
        rw [lastOf, List.getElem?_eq_getElem hku]
      have Hbw : Hid _ := hbw
      clear hcw hbw hbw1
      by_cases e : D.uf[k].1 = n
      · rw [e] at ca
        go_wp2_with fail
        go_roundw
        case rel => exact ⟨k + 1, wp, wo, wc, by omega, rfl, by go_num, by trivial, by rw [hstep.out, if_pos e]; exact Hbw.out⟩
        case measure => simp [intOf]; omega
      · have e' : ((D.uf[k].1 : Int) == (n : Int)) = false := by simp; omega
        generalize (D.uf[k]'hku).1 = bb at ca e e' hstep
        go_wp2_with fail
        go_roundw
        case rel => exact ⟨k + 1, p', o', c', by omega, rfl, by go_num, by trivial, by rw [hstep.out, if_neg e]; exact HB.out⟩
        case measure => simp [intOf]; omega
    · have hkn : k = n2 := by omega
      subst k
      go_wp2_with fail
      go_ret
      refine ⟨p', o', c', rfl, ?_, B0⟩
      unfold DS.stand
      rw [← He.out]
      exact HB.out
end Go.Proofs.YtkhejjddmbegaaaGreat.Dk

/-
  The document's disk: Read, Image.
-/
namespace Go.Proofs.YtkhejjddmbegaaaGreat.Dk
open Go.RowKit

def imgK (D : DS) : Nat → List UInt8
  | 0 => []
  | k + 1 => imgK D k ++ D.stand k
theorem stand_blk (D : DS) (ok : D.Ok) (k : Nat) (hk : k < D.nb) : blk D.image k = D.stand k := (blk_carryTo D.uf D.dur D.nb k hk ok.len ok.each D.uf.length (Nat.le_refl _)).2
theorem image_len (D : DS) (ok : D.Ok) : D.image.length = D.nb * 4096 := by
  have := (blk_carryTo D.uf D.dur D.nb 0 (by have := ok.lo; omega) ok.len ok.each D.uf.length (Nat.le_refl _)).1
  exact this
theorem imgK_take (D : DS) (ok : D.Ok) : ∀ k, k ≤ D.nb → imgK D k = D.image.take (k * 4096)
  | 0, _ => by simp [imgK]
  | k + 1, h => by
    rw [imgK, imgK_take D ok k (by omega), ← stand_blk D ok k (by omega), blk, show (k + 1) * 4096 = k * 4096 + 4096 by omega, List.take_add]
theorem imgK_all (D : DS) (ok : D.Ok) : imgK D D.nb = D.image := by
  rw [imgK_take D ok D.nb (Nat.le_refl _), ← image_len D ok, List.take_length]
theorem stand_len' (D : DS) (ok : D.Ok) (k : Nat) (hk : k < D.nb) : (D.stand k).length = 4096 := by
  rw [← stand_blk D ok k hk]
  exact blk_length _ _ (by rw [image_len D ok]; omega)
theorem owns_ne {w : World} {B g n e z t : Nat} {v : Value} {xs : List Value} {cs : Array Value} (h : w.ownsRow B e z v n xs) (hb : Box w g cs t) (ht : e ≠ t) : some g ≠ v.ownBlock := by
  rcases h.2 with ⟨rfl, _⟩ | ⟨g', cap, cur, rfl, _, hg, _⟩
  · simp [Value.ownBlock]
  · intro e'
    simp [Value.ownBlock] at e'
    subst e'
    exact Box.ne (cs := cur) hg hb ht rfl

end Go.Proofs.YtkhejjddmbegaaaGreat.Dk

/-
  What a disk's blocks are behind a group's writes.
-/
namespace Go.Proofs.YtkhejjddmbegaaaGreat.J
open Go.RowKit

theorem lastOf_front (uf ws : List (Nat × List UInt8)) (n : Nat) : ∀ k, k ≤ uf.length → Dk.lastOf (uf ++ ws) n k = Dk.lastOf uf n k
  | 0, _ => rfl
  | k + 1, h => by
    rw [Dk.lastOf, Dk.lastOf, List.getElem?_append_left (by omega), lastOf_front uf ws n k (by omega)]
theorem lastOf_snoc (uf : List (Nat × List UInt8)) (x : Nat × List UInt8) (n : Nat) : Dk.lastOf (uf ++ [x]) n (uf ++ [x]).length = if x.1 = n then some x.2 else Dk.lastOf uf n uf.length := by
  rw [List.length_append, List.length_singleton, Dk.lastOf, List.getElem?_concat_length, lastOf_front uf [x] n _ (Nat.le_refl _)]
/-- one write more -/
theorem stand_snoc (D : Dk.DS) (x : Nat × List UInt8) (m n : Nat) : ({ D with uf := D.uf ++ [x], n := m } : Dk.DS).stand n = if x.1 = n then x.2 else D.stand n := by
  unfold Dk.DS.stand
  simp only [lastOf_snoc]
  split
  · rfl
  · rfl
theorem wrs_one (S f : Nat) (bs : List (List UInt8)) (k : Nat) : wrs S f bs (k + 1) = wrs S f bs k ++ [(2 + (f + k) % S, bs.getD k [])] := by simp [wrs, List.range_succ]
theorem grow_one (D : Dk.DS) (S f : Nat) (bs : List (List UInt8)) (k : Nat) : grow D S f bs (k + 1) = { grow D S f bs k with uf := (grow D S f bs k).uf ++ [(2 + (f + k) % S, bs.getD k [])], n := (grow D S f bs k).n + 1 } := by
  simp only [grow, wrs_one, List.append_assoc, Nat.add_assoc]
theorem grow_out (D : Dk.DS) (S f : Nat) (bs : List (List UInt8)) (p : Nat) : ∀ k, (∀ i, i < k → 2 + (f + i) % S ≠ p) → (grow D S f bs k).stand p = D.stand p
  | 0, _ => by rw [grow_zero]
  | k + 1, h => by
    rw [grow_one, stand_snoc, if_neg (h k (by omega)), grow_out D S f bs p k (fun i hi => h i (by omega))]
theorem grow_in (D : Dk.DS) (f : Nat) (bs : List (List UInt8)) (i : Nat) : ∀ k, i < k → k ≤ 16 → (grow D 16 f bs k).stand (2 + (f + i) % 16) = bs.getD i []
  | 0, h, _ => by omega
  | k + 1, h, h16 => by
    rw [grow_one, stand_snoc]
    by_cases e : i = k
    · subst e
      rw [if_pos rfl]
    · rw [if_neg (by dsimp only; omega), grow_in D f bs i k (by omega) (by omega)]
theorem stand_flush {D : Dk.DS} (h : Calm D) (ok : D.Ok) (n : Nat) (hn : n < D.nb) : D.flush.stand n = D.stand n := by
  rw [h.flush.1, ← Dk.stand_blk D ok n hn]
  rfl
/-- as the law picks -/
def pk (x : Int) (n : Nat) : Int := if x.tmod n < 0 then x.tmod n + n else x.tmod n
theorem pk_in (x : Int) (n : Nat) (h0 : 0 < n) : 0 ≤ pk x n ∧ pk x n < n := by
  have h1 : x.tmod n < n := Int.tmod_lt_of_pos x (by omega)
  have h2 : -(n : Int) < x.tmod n := Int.lt_tmod_of_pos x (by omega)
  unfold pk
  split <;> omega
theorem pick_eq (x : Int) (n : Nat) (N : Int) (w : World) (hN : N = (n : Int)) (h0 : 0 < n) (hn : n ≤ 2000000) :
    Calls Tryz.prog 16 #[.int .i64 x, .int .i64 N] w fun e w' => e = .returned (.int .i64 (pk x n)) ∧ w = w' := by
  subst hN
  have h1 : x.tmod n < n := Int.tmod_lt_of_pos x (by omega)
  have h2 : -(n : Int) < x.tmod n := Int.lt_tmod_of_pos x (by omega)
  unfold pk
  obtain ⟨y, hy⟩ : ∃ y, x.tmod n = y := ⟨_, rfl⟩
  rw [hy] at h1 h2 ⊢
  by_cases hneg : y < 0
  · rw [if_pos hneg]
    go_enter Tryz.func16, Tryz.ntmps16
    go_wp2
    go_ret
    exact ⟨rfl, rfl⟩
  · rw [if_neg hneg]
    go_enter Tryz.func16, Tryz.ntmps16
    go_wp2
    go_ret
    exact ⟨rfl, rfl⟩
end Go.Proofs.YtkhejjddmbegaaaGreat.J

/-
  Append that takes its places.
-/
namespace Go.Proofs.YtkhejjddmbegaaaGreat.J
open Go.RowKit
open Go.Proofs.YtkhejjddmbegaaaGreat.Dk (Box)

/-- what stands behind region 8 of Append -/
def A8 (w4 : World) (S T U H : Int) (v : Value) (u : World) : Prop := ∃ b, v = .pointer (some ⟨b, 0, none⟩) ∧ w4.heap.size ≤ b ∧ Box u b #[.int .i64 S, .int .i64 T, .int .i64 U, .int .i64 H] 103 ∧ Below w4.heap.size w4 u
theorem A8.ofSet {w4 W : World} (hb : Below w4.heap.size w4 W) (hx : Box W w4.heap.size #[.int .i64 0, .int .i64 0, .int .i64 0, .int .i64 0] 103) (S T U H : Int) :
    A8 w4 S T U H (.pointer (some ⟨w4.heap.size, 0, none⟩)) ((((W.setCell ⟨w4.heap.size, 0, none⟩ (.int .i64 S)).setCell ⟨w4.heap.size, 1, none⟩ (.int .i64 T)).setCell ⟨w4.heap.size, 2, none⟩ (.int .i64 U)).setCell ⟨w4.heap.size, 3, none⟩ (.int .i64 H)) :=
  ⟨_, rfl, Nat.le_refl _, by simpa using ((((hx.store 0 (.int .i64 S)).store 1 (.int .i64 T)).store 2 (.int .i64 U)).store 3 (.int .i64 H)), below_set4 hb (Nat.le_refl _) _ _ _ _⟩
theorem A8.ofNew {w4 W : World} (hb : Below w4.heap.size w4 W) (S T U H : Int) :
    A8 w4 S T U H (.pointer (some ⟨W.heap.size, 0, none⟩)) (W.alloc (.cells #[.int .i64 S, .int .i64 T, .int .i64 U, .int .i64 H] 103)) :=
  ⟨_, rfl, hb.size, Dk.Box.new W _ 103, hb.alloc hb.size _⟩

/-- what stands behind region 16 of Append -/
def A16 (w7 : World) (g dg : Nat) (vs : Value) (J : JS) (m : Nat) (ys : List Value) (u : World) : Prop :=
  ∃ vs', Box u g (jC g dg vs' J) 105 ∧ u.ownsRow 0 3 1 vs' m ys ∧ (∀ k, vs'.ownBlock = some k → vs.ownBlock = some k ∨ w7.heap.size ≤ k) ∧ Dk.Upd (fun k => k = g ∨ vs.ownBlock = some k) w7 u
theorem app_end {w w5 w6 w7 w8 : World} {g dg : Nat} {vs : Value} {J : JS} {F Fd F' : Nat → Prop} {D : Dk.DS} {ys : List Int} (hX : F g ∧ ¬ Fd g ∧ ∀ i, F i → i < w.heap.size) (hv : ∀ k, vs.ownBlock = some k → ¬ Fd k ∧ F k) (hFd : ∀ i, Fd i → F i)
    (B5 : Below w.heap.size w w5) (hF6 : ∀ i, F' i → Fd i ∨ w5.heap.size ≤ i) (hd6 : Dk.IsDisk w6 dg D F') (hu6 : Dk.Upd Fd w5 w6) (hu7 : Dk.Upd (· = g) w6 w7) (h8 : A16 w7 g dg vs J ys.length (ics ys) w8) (x : Int) :
    JTo w F g dg { J with next := x } ys D (w8.setCell ⟨g, 4, none⟩ (.int .i64 x)) := by
  obtain ⟨hFF, hFg, hFlt⟩ := hX
  obtain ⟨vs', hb8, hr8, hv8, hu8⟩ := h8
  have z1 := B5.size
  have z2 := hu6.size
  have z3 := hu7.size
  have z4 := hu8.size
  have s := Dk.grown_store w8 g 4 (.int .i64 x)
  have z5 := s.size
  have hg := hFlt g hFF
  have hF6lt : ∀ i, F' i → i < w6.heap.size := fun i hi => by
    obtain ⟨gd, cd, vu, ps, hl⟩ := hd6
    exact hl.flt i hi
  have hngF : ¬ F' g := fun h => by
    rcases hF6 g h with h1 | h1
    · exact hFg h1
    · omega
  have hnv : ∀ k, vs.ownBlock = some k → ¬ F' k ∧ k < w.heap.size := fun k hk => by
    obtain ⟨a1, a2⟩ := hv k hk
    have a3 := hFlt k a2
    refine ⟨fun h => ?_, a3⟩
    rcases hF6 k h with h1 | h1
    · exact a1 h1
    · omega
  have hr8ne : ∀ k, vs'.ownBlock = some k → k ≠ g ∧ k < w8.heap.size := fun k hk => by
    refine ⟨fun e => ?_, (hr8.lt k hk).2⟩
    subst e
    rcases hr8.2 with ⟨e1, _⟩ | ⟨q', cap', cur, e1, _, e2, _⟩
    · rw [e1] at hk; cases hk
    · rw [e1] at hk
      injection hk with hk
      have e' : q' = k := hk
      subst e'
      exact hb8.ne e2 (by decide) rfl
  have hother : ∀ k, k ≠ g → (w8.setCell ⟨g, 4, none⟩ (.int .i64 x)).heap[k]? = w8.heap[k]? := fun k hk => heap_setCell_other w8 ⟨g, 4, none⟩ k _ (by simpa using hk)
  refine ⟨fun i => (F i ∨ w.heap.size ≤ i) ∧ i < (w8.setCell ⟨g, 4, none⟩ (.int .i64 x)).heap.size, ⟨⟨vs', F', box_next hb8 x, disk_kept hd6 (fun i hi => ?_) (by omega), hngF, owns_kept hr8 (fun k hk => hother k (hr8ne k hk).1), fun k hk => ?_, fun i hi => ⟨?_, ?_⟩⟩, ⟨.inl hFF, by omega⟩, fun i hi => hi.2⟩, fun i hi => hi.1, ?_⟩
  · have hig : i ≠ g := fun e => hngF (e ▸ hi)
    have h6 := hF6lt i hi
    rw [hother i hig, hu8.block i (by omega) (fun h => ?_), hu7.block i h6 hig]
    rcases h with h | h
    · exact hig h
    · exact (hnv i h).1 hi
  · obtain ⟨a1, a2⟩ := hr8ne k hk
    rcases hv8 k hk with h | h
    · exact ⟨(hnv k h).1, .inl (hv k h).2, by omega⟩
    · exact ⟨fun hf => by have := hF6lt k hf; omega, .inr (by omega), by omega⟩
  · rcases hF6 i hi with h | h
    · exact .inl (hFd i h)
    · exact .inr (by omega)
  · have := hF6lt i hi
    omega
  · refine ⟨s.os.trans (hu8.os.trans (hu7.os.trans (hu6.os.trans B5.os))), s.tape.trans (hu8.tape.trans (hu7.tape.trans (hu6.tape.trans B5.tape))), s.output.trans (hu8.output.trans (hu7.output.trans (hu6.output.trans B5.output))), by omega, fun k hk hn => ?_⟩
    have hkg : k ≠ g := fun e => hn (e ▸ hFF)
    rw [hother k hkg, hu8.block k (by omega) (fun h => ?_), hu7.block k (by omega) hkg, hu6.block k (by omega) (fun h => hn (hFd k h)), B5.block k hk]
    rcases h with h | h
    · exact hkg h
    · exact hn (hv k h).2

set_option maxRecDepth 100000 in
set_option maxHeartbeats 4000000 in
theorem append_ok {w : World} {g dg n cap : Nat} {al : Option Addr} {J : JS} {is : List (Int × List UInt8)} {xs : List Int} {D : Dk.DS} {F : Nat → Prop} (hJ : JD w g dg J xs D F) (hb : J.broken = false) (hl : is.length = n) (hI : Rc.Imgs w al is)
    (hok : Rc.okGroup J.epoch J.next is) (hR : Rg.R J.S J.T J.U J.H) (h2 : ((n + 1 : Nat) : Int) ≤ Rg.fr J.S J.T J.U J.H)
    (hlog : J.log = 2) (hc : Calm D) (hS : J.S ≤ 64) (hnb : 2 + J.S ≤ D.nb) (hd1 : D.uf.length ≤ 900000) (hd2 : D.n ≤ 900000) (hx : xs.length ≤ 1000) :
    Calls Tryz.prog 31 #[.pointer (some ⟨g, 0, none⟩), .slice al n cap, .bool false] w fun r w' => r = .returned (.tuple #[.int .i64 J.next, .int .i64 0]) ∧
      JTo w F g dg { J with next := J.next + 1, U := J.U + (n + 1 : Nat), H := J.H - 0 } (xs ++ [((n + 1 : Nat) : Int)]) (grow D J.S.toNat ((J.T + J.U) % J.S).toNat (Rc.putL J.epoch.toNat J.next.toNat is) (n + 1)) w' := by
  obtain ⟨i0, hi, hz0, hz1, hz2⟩ := info_parts Dk.info3
  obtain ⟨⟨vs, Fd, h, hd, hFg, hrow, hFv, hFd⟩, hFF, hFlt⟩ := hJ
  have hn32 : n ≤ 32 := by have := hok.1.2.1; simp at this; omega
  have hst := (Rc.okStamp_iff _ _).1 hok.1.1
  have hfr : Rg.fr J.S J.T J.U J.H = J.S - J.U - J.H := by rw [Rg.fr, if_pos hR]
  rw [hfr] at h2
  have hR' := hR
  unfold Rg.R at hR'
  have hSn : ¬ J.S < (n + 1 : Nat) := by omega
  have ca := app_ahead_ok (cap := cap) h hb hl hI hok
  rw [if_neg hSn] at ca
  have cp := fun u => Rg.put_ok J.S J.T J.U J.H ((n + 1 : Nat) : Int) 0 u hR (by omega) ⟨by omega, by omega, by omega⟩ (by rw [hfr]; omega)
  unfold Rg.ri at cp
  -- the places
  obtain ⟨S, hSe⟩ : ∃ S : Nat, J.S = (S : Int) := ⟨J.S.toNat, by omega⟩
  have hS0 : 0 < S := by omega
  obtain ⟨f, hfe⟩ : ∃ f : Nat, (J.T + J.U) % J.S = (f : Int) := ⟨((J.T + J.U) % J.S).toNat, by have := Int.emod_nonneg (J.T + J.U) (b := J.S) (by omega); omega⟩
  have hfS : f < S := by have := Int.emod_lt_of_pos (J.T + J.U) (b := J.S) (by omega); omega
  have hSt : J.S.toNat = S := by omega
  have hft : ((J.T + J.U) % J.S).toNat = f := by omega
  rw [hSt, hft]
  rw [hfe] at cp
  obtain ⟨U', hU'⟩ : ∃ U', U' = J.U + ((n + 1 : Nat) : Int) := ⟨_, rfl⟩
  obtain ⟨H', hH'⟩ : ∃ H', H' = J.H - 0 := ⟨_, rfl⟩
  rw [← hU', ← hH'] at cp ⊢
  clear hU' hH'
  have hbl : Hid ((Rc.putL J.epoch.toNat J.next.toNat is).length = n + 1) := by show _ = _; rw [Rc.putL_length, hl]
  have hlt := h.lt
  have HW : Hid (∀ w5 cl gl, Below w.heap.size w w5 → New w.heap.size w5 gl (Rc.putL J.epoch.toNat J.next.toNat is) → Calls Tryz.prog 58 #[.pointer (some ⟨g, 0, none⟩), .slice (some ⟨gl, 0, none⟩) (n + 1) cl, .int .i64 (f : Int)] w5 fun r w' => r = .returned (.int .i64 0) ∧ Wr w5 dg Fd (grow D S f (Rc.putL J.epoch.toNat J.next.toNat is) (n + 1)) w') := fun w5 cl gl B5 hN => by
    have hFd' : ∀ i, w.heap.size ≤ i → ¬ Fd i := fun i hi hf => by have := hFlt i (hFd i hf); omega
    refine write_at (c := cl) (o := 0) (fun k => grow D S f (Rc.putL J.epoch.toNat J.next.toNat is) k) (Rc.putL J.epoch.toNat J.next.toNat is) S f (h.below B5) hFg hSe hlog (by rw [grow_zero]; exact disk_kept hd (fun i hi => B5.block i (hFlt i (hFd i hi))) B5.size) hbl.out (by omega) (fun k hk => ?_) (hFd' _ hN.1) hN.2.1 hS0 (by omega) hfS (fun k hk => ⟨grow_succ hc S f _ k hk, ?_, (grow_calm hc S f _ k).operE, ?_⟩)
    · obtain ⟨q, c, a1, a2, a3, a4, _⟩ := hN.2.2 k hk
      exact ⟨⟨q, 0, none⟩, c, by rw [Nat.zero_add]; exact a1, a2, a3, hFd' q a4⟩
    · have := Nat.mod_lt (f + k) hS0
      show _ < D.nb
      omega
    · have := hbl.out
      constructor
      · show (D.uf ++ wrs S f _ k).length ≤ _
        rw [List.length_append, wrs_length]
        omega
      · show D.n + k ≤ _
        omega
  have H0 : Hid (Box w g (jC g dg vs J) 105) := h
  have HD : Hid (∀ k, vs.ownBlock = some k → ¬ Fd k ∧ F k) := hFv
  have HF : Hid (∀ i, Fd i → F i) := hFd
  have HR : Hid (w.ownsRow 0 3 1 vs xs.length (ics xs)) := hrow
  have HX : Hid (F g ∧ ¬ Fd g ∧ ∀ i, F i → i < w.heap.size) := ⟨hFF, hFg, hFlt⟩
  generalize grow D S f (Rc.putL J.epoch.toNat J.next.toNat is) (n + 1) = D' at HW ⊢
  generalize Rc.putL J.epoch.toNat J.next.toNat is = bs at HW ca hbl
  have hn1 : J.next + 1 ≤ 549755813889 ∧ 1 ≤ J.next := by omega
  clear h hI hok hSn hR h2 hR' hd hFg hrow hFv hFd hFF hFlt hSe hS0 hfe hfS hSt hft hfr hlog hc hS hnb hd1 hd2 hst hb hl
  go_enter Tryz.func31, Tryz.ntmps31
  go_wp2_with fail
  refine Calls.mono ca ?_
  rintro r w4 ⟨e, rfl, rfl, hu, gl, cl, hbc, hN⟩
  have B4 := ap3_upd hu
  have z4 : w.heap.size + 3 ≤ w4.heap.size := by have := hu.size; rwa [ap3_size] at this
  have HA : Hid (Box w4 w.heap.size #[.pointer (some ⟨g, 0, none⟩)] 72) := (hu.block w.heap.size (by rw [ap3_size]; omega) (by show ¬ w.heap.size = w.heap.size + 2; omega)).trans (ap3_a w g al n cap)
  have HC : Hid (Box w4 (w.heap.size + 2) #[.slice (some ⟨gl, 0, none⟩) (n + 1) cl] 52) := hbc
  have HN : Hid (New w.heap.size w4 gl bs) := by
    obtain ⟨n1, n2, n3⟩ := hN
    rw [ap3_size] at n1
    refine ⟨by omega, n2, fun k hk => ?_⟩
    obtain ⟨q, c, a1, a2, a3, a4, a5⟩ := n3 k hk
    rw [ap3_size] at a4
    exact ⟨q, c, a1, a2, a3, by omega, a5⟩
  have HS : Hid (∀ u, Below w4.heap.size w4 u → R8 w g gl n cl J u) := fun u bu => by
    have hz := bu.size
    obtain ⟨_, _, _, _, _, _, c6, c7, c8, c9, _, _⟩ := box_cells (H0.out.below B4)
    have ca := HA.out.cell 0
    have cc := hbc.cell 0
    simp at ca cc
    have hg4 : g < w4.heap.size := by omega
    exact ⟨(bu.cell (p := ⟨w.heap.size, 0, none⟩) HA.out.lt).trans ca, (bu.cell (p := ⟨g, 6, none⟩) hg4).trans c6, (bu.cell (p := ⟨g, 7, none⟩) hg4).trans c7, (bu.cell (p := ⟨g, 8, none⟩) hg4).trans c8, (bu.cell (p := ⟨g, 9, none⟩) hg4).trans c9, (bu.cell (p := ⟨w.heap.size + 2, 0, none⟩) hbc.lt).trans cc⟩
  have ccx := hbc.cell 0
  simp at ccx
  clear hu hbc hN ca
  go_upto_region 8 with fail
  clear ccx
  go_cut [9, 11, 12] from 24 (fun v9 v11 v12 u => v9 = .int .i64 0 ∧ v12 = .int .i64 (f : Int) ∧ A8 w4 J.S J.T U' H' v11 u)
  case first =>
    go_region_held3 (fun u => u.cell? ⟨w.heap.size, 0, none⟩ = some (.pointer (some ⟨g, 0, none⟩)) ∧ u.cell? ⟨g, 6, none⟩ = some (.int .i64 J.S) ∧ u.cell? ⟨g, 7, none⟩ = some (.int .i64 J.T) ∧ u.cell? ⟨g, 8, none⟩ = some (.int .i64 J.U) ∧ u.cell? ⟨g, 9, none⟩ = some (.int .i64 J.H) ∧ u.cell? ⟨w.heap.size + 2, 0, none⟩ = some (.slice (some ⟨gl, 0, none⟩) (n + 1) cl))
      (first
        | with_reducible exact HS.out _ ((Below.refl w4.heap.size w4).drew)
        | with_reducible exact HS.out _ hb1
        | with_reducible exact HS.out _ (((Below.refl w4.heap.size w4).alloc (Nat.le_refl _) _).drew)
        | with_reducible exact HS.out _ (hb1.alloc hb1.size _)
        | with_reducible exact HS.out _ (below_set4 hb1 (Nat.le_refl _) _ _ _ _))
      (first
        | (go_at_call 57; refine Calls.mono (cp w4.drew) ?_; rintro r W ⟨rfl, hw1⟩; have hb1 : Below w4.heap.size w4 W := (Below.refl w4.heap.size w4).drew.trans hw1)
        | (go_at_call 57; refine Calls.mono (cp (w4.alloc (.cells #[.int .i64 0, .int .i64 0, .int .i64 0, .int .i64 0] 103)).drew) ?_; rintro r W ⟨rfl, hw1⟩; have hb1 : Below w4.heap.size w4 W := ((Below.refl w4.heap.size w4).alloc (Nat.le_refl _) _).drew.trans (hw1.mono (by simp)); have hnb := (hw1.block w4.heap.size (by simp)).trans (Dk.Box.new w4 #[.int .i64 0, .int .i64 0, .int .i64 0, .int .i64 0] 103); obtain ⟨⟨q0, q1, q2, q3⟩, p0, p1, p2, p3⟩ := box4 hnb))
    all_goals
      go_wp2_with fail
      go_meet
      case rel =>
        first
          | exact ⟨rfl, rfl, A8.ofSet hb1 hnb _ _ _ _⟩
          | exact ⟨rfl, rfl, A8.ofNew hb1 _ _ _ _⟩
  case rest =>
    obtain ⟨rfl, rfl, b5, rfl, hb5, hx5, B5⟩ := hcut
    have B5w : Below w.heap.size w wc := B4.trans (B5.mono B4.size)
    have hN5 : New w.heap.size wc gl bs := HN.out.kept B5.size (fun k h1 h2 => B5.block k h2)
    have cW := HW.out wc cl gl B5w hN5
    have ha5 := HA.out.below B5
    have hc5 := HC.out.below B5
    have y1 := ha5.cell 0
    have y2 := hc5.cell 0
    simp at y1 y2
    have HX5 : Hid (Box wc b5 #[.int .i64 J.S, .int .i64 J.T, .int .i64 U', .int .i64 H'] 103) := hx5
    clear HS hx5 HW
    go_wp2_with fail
    refine Calls.mono cW ?_
    rintro r w6 ⟨rfl, F', hd6, hF6, hu6⟩
    have HD6 : Hid (Dk.IsDisk w6 dg D' F') := hd6
    have HF6 : Hid (∀ i, F' i → Fd i ∨ wc.heap.size ≤ i) := hF6
    have HU6 : Hid (Dk.Upd Fd wc w6) := hu6
    have hFd' : ∀ i, w.heap.size ≤ i → ¬ Fd i := fun i hi hf => by have := HX.out.2.2 i (HF.out i hf); omega
    have g6 : Box w6 g (jC g dg vs J) 105 := (hu6.block g (Nat.lt_of_lt_of_le hlt B5w.size) HX.out.2.1).trans (H0.out.below B5w)
    have a6 : Box w6 w.heap.size #[.pointer (some ⟨g, 0, none⟩)] 72 := (hu6.block _ ha5.lt (hFd' _ (Nat.le_refl _))).trans ha5
    have c6 : Box w6 (w.heap.size + 2) #[.slice (some ⟨gl, 0, none⟩) (n + 1) cl] 52 := (hu6.block _ hc5.lt (hFd' _ (by omega))).trans hc5
    have x6 : Box w6 b5 #[.int .i64 J.S, .int .i64 J.T, .int .i64 U', .int .i64 H'] 103 := (hu6.block _ HX5.out.lt (hFd' _ (by omega))).trans HX5.out
    clear hd6 hF6 hu6 cW y1 y2 ha5 hc5 HX5 hN5 HN
    obtain ⟨g0, g1, g2, g3, g4, g5, g6c, g7, g8, g9, g10, g11⟩ := box_cells g6
    have f6 := g6.frozen 6
    have f7 := g6.frozen 7
    have f8 := g6.frozen 8
    have f9 := g6.frozen 9
    have y1 := a6.cell 0
    have y2 := c6.cell 0
    simp at y1 y2
    obtain ⟨⟨x0, x1, x2, x3⟩, _⟩ := box4 x6
    have g7b := box_ring g6 J.S J.T U' H'
    have hU7 := upd_set (upd_set (upd_set (upd_set (Dk.Upd.refl (· = g) w6) g 6 (.inl rfl) (.int .i64 J.S)) g 7 (.inl rfl) (.int .i64 J.T)) g 8 (.inl rfl) (.int .i64 U')) g 9 (.inl rfl) (.int .i64 H')
    go_upto_region 16 with fail
    generalize (((w6.setCell ⟨g, 6, none⟩ (.int .i64 J.S)).setCell ⟨g, 7, none⟩ (.int .i64 J.T)).setCell ⟨g, 8, none⟩ (.int .i64 U')).setCell ⟨g, 9, none⟩ (.int .i64 H') = w7 at g7b hU7 ⊢
    have hz67 := hU7.size
    have hne : ∀ q (cs : Array Value) (t : TypeId), Box w6 q cs t → t ≠ 105 → q ≠ g := fun q cs t hq ht e => (e ▸ hq : Box w6 g cs t).ne g6 ht rfl
    have a7 : Box w7 w.heap.size #[.pointer (some ⟨g, 0, none⟩)] 72 := (hU7.block _ a6.lt (hne _ _ _ a6 (by decide))).trans a6
    have c7 : Box w7 (w.heap.size + 2) #[.slice (some ⟨gl, 0, none⟩) (n + 1) cl] 52 := (hU7.block _ c6.lt (hne _ _ _ c6 (by decide))).trans c6
    have r7 : w7.ownsRow 0 3 1 vs xs.length (ics xs) := by
      have hr := HR.out
      have hv : ∀ k, vs.ownBlock = some k → k < w.heap.size ∧ ¬ Fd k := fun k hk => ⟨HX.out.2.2 k (HD.out k hk).2, (HD.out k hk).1⟩
      have r5 := owns_kept hr (fun k hk => B5w.block k (hv k hk).1)
      have r6 := owns_kept r5 (fun k hk => HU6.out.block k (Nat.lt_of_lt_of_le (hv k hk).1 B5w.size) (hv k hk).2)
      refine owns_kept r6 (fun k hk => hU7.block k ?_ (fun e => ?_))
      · exact Nat.lt_of_lt_of_le (Nat.lt_of_lt_of_le (hv k hk).1 B5w.size) HU6.out.size
      · subst e
        rcases r6.2 with ⟨q, _⟩ | ⟨q, cap', cur, q1, _, q2, _⟩
        · rw [q] at hk; cases hk
        · rw [q1] at hk
          injection hk with hk
          have hk' : q = k := hk
          subst hk'
          exact hne q _ 3 q2 (by decide) rfl
    clear g0 g1 g2 g3 g4 g5 g6c g7 g8 g9 g10 g11 f6 f7 f8 f9 y1 y2 x0 x1 x2 x3 x6 a6 c6
    have y1 := a7.cell 0
    have y2 := c7.cell 0
    simp at y1 y2
    obtain ⟨vp, vc, rfl⟩ : ∃ a c, vs = .slice a xs.length c := by
      rcases r7.2 with ⟨q, q0⟩ | ⟨q, cap', cur, q1, _⟩
      · exact ⟨none, 0, by rw [q, q0]⟩
      · exact ⟨_, _, q1⟩
    have HG7 : Hid (Box w7 g (jC g dg (.slice vp xs.length vc) { J with U := U', H := H' }) 105) := g7b
    have HR7 : Hid (w7.ownsRow 0 3 1 (.slice vp xs.length vc) xs.length (ics xs)) := r7
    have HU7 : Hid (Dk.Upd (· = g) w6 w7) := hU7
    have HA7 : Hid (Box w7 w.heap.size #[.pointer (some ⟨g, 0, none⟩)] 72) := a7
    have HC7 : Hid (Box w7 (w.heap.size + 2) #[.slice (some ⟨gl, 0, none⟩) (n + 1) cl] 52) := c7
    clear g7b r7 hU7 hne a7 c7 g6 y1 y2
    go_cut [] from 54 (fun u => A16 w7 g dg (.slice vp xs.length vc) { J with U := U', H := H' } (xs.length + 1) (ics xs ++ [.int .i64 ((n : Int) + 1)]) u)
    case first =>
      have l7a := HA7.out.lt
      have HS : Hid (∀ u : World, (∀ k, k < w7.heap.size → k ≠ g → (Value.slice vp xs.length vc).ownBlock ≠ some k → u.heap[k]? = w7.heap[k]?) → u.cell? ⟨w.heap.size, 0, none⟩ = some (.pointer (some ⟨g, 0, none⟩)) ∧ u.cell? ⟨w.heap.size + 2, 0, none⟩ = some (.slice (some ⟨gl, 0, none⟩) (n + 1) cl)) := fun u hu => by
        have hv : ∀ q (cs : Array Value) (t : TypeId), Box w7 q cs t → t ≠ 3 → (Value.slice vp xs.length vc).ownBlock ≠ some q := fun q cs t hq ht e => by
          rcases HR7.out.2 with ⟨e1, _⟩ | ⟨q', cap', cur, e1, _, e2, _⟩
          · rw [e1] at e; cases e
          · rw [e1] at e
            injection e with e
            have e' : q' = q := e
            subst e'
            exact hq.ne e2 ht rfl
        have y1 := HA7.out.cell 0
        have y2 := HC7.out.cell 0
        simp at y1 y2
        exact ⟨(World.cell?_of_block (a := ⟨w.heap.size, 0, none⟩) (hu _ HA7.out.lt (fun e => HA7.out.ne HG7.out (by decide) e) (hv _ _ _ HA7.out (by decide)))).trans y1,
          (World.cell?_of_block (a := ⟨w.heap.size + 2, 0, none⟩) (hu _ HC7.out.lt (fun e => HC7.out.ne HG7.out (by decide) e) (hv _ _ _ HC7.out (by decide)))).trans y2⟩
      have g10 := (box_cells HG7.out).2.2.2.2.2.2.2.2.2.2.1
      refine wp_region_noPanic ?_
      refine wp_region_held_drew (S := fun u => u.cell? ⟨w.heap.size, 0, none⟩ = some (.pointer (some ⟨g, 0, none⟩)) ∧ u.cell? ⟨w.heap.size + 2, 0, none⟩ = some (.slice (some ⟨gl, 0, none⟩) (n + 1) cl)) (by kernel_rfl) (HS.out _ (fun _ _ _ _ => rfl)) (fun hHeld => ?_)
      refine wpAnyH_take (i := 0) (v := ?_) rfl (by kernel_rfl) (by kernel_rfl) (by kernel_rfl) (fun _ _ _ h => h) (Or.inl ⟨by rfl, ?_⟩) (by assumption) ?_
      rotate_left
      · intro w hSw
        go_simp
        with_reducible rfl
      simp only [Act.put, List.setIfInBounds_toArray, List.set_cons_zero, List.set_cons_succ, List.getElem_toArray, List.getElem_cons_zero]
      refine wpAnyH_take (i := 1) (v := ?_) rfl (by kernel_rfl) (by kernel_rfl) (by kernel_rfl) (fun _ _ _ h => h) (Or.inl ⟨by rfl, ?_⟩) (by assumption) ?_
      rotate_left
      · intro w hSw
        go_simp
        with_reducible rfl
      simp only [Act.put, List.setIfInBounds_toArray, List.set_cons_zero, List.set_cons_succ, List.getElem_toArray, List.getElem_cons_zero, List.getElem_cons_succ]
      refine wpAnyH_take (i := 2) (v := ?_) rfl (by kernel_rfl) (by kernel_rfl) (by kernel_rfl) (fun _ _ _ h => h) (Or.inl ⟨by rfl, ?_⟩) (by assumption) ?_
      rotate_left
      · intro w hSw
        go_simp
        with_reducible rfl
      simp only [Act.put, List.setIfInBounds_toArray, List.set_cons_zero, List.set_cons_succ, List.getElem_toArray, List.getElem_cons_zero, List.getElem_cons_succ]
      refine wpAnyH_take (i := 3) (v := ?_) rfl (by kernel_rfl) (by kernel_rfl) (by kernel_rfl) (fun _ _ _ h => h) (Or.inl ⟨by rfl, ?_⟩) (by assumption) ?_
      rotate_left
      · intro w hSw
        go_simp
        with_reducible rfl
      simp only [Act.put, List.setIfInBounds_toArray, List.set_cons_zero, List.set_cons_succ, List.getElem_toArray, List.getElem_cons_zero, List.getElem_cons_succ]
      refine wpAnyH_take (i := 5) (v := ?_) rfl (by kernel_rfl) (by kernel_rfl) (by kernel_rfl) (fun _ _ _ h => h) (Or.inl ⟨by rfl, ?_⟩) (by assumption) ?_
      rotate_left
      · intro w hSw
        go_simp
        with_reducible rfl
      simp only [Act.put, List.setIfInBounds_toArray, List.set_cons_zero, List.set_cons_succ, List.getElem_toArray, List.getElem_cons_zero, List.getElem_cons_succ]
      refine wpAnyH_take (i := 6) (v := ?_) rfl (by kernel_rfl) (by kernel_rfl) (by kernel_rfl) (fun _ _ _ h => h) (Or.inl ⟨by rfl, ?_⟩) (by assumption) ?_
      rotate_left
      · intro w hSw
        go_simp
        with_reducible rfl
      simp only [Act.put, List.setIfInBounds_toArray, List.set_cons_zero, List.set_cons_succ, List.getElem_toArray, List.getElem_cons_zero, List.getElem_cons_succ]
      have g10a : ∀ o : Obj, (w7.alloc o).cell? ⟨g, 10, none⟩ = some (.slice vp xs.length vc) := fun o => (box_cells (HG7.out.alloc o)).2.2.2.2.2.2.2.2.2.2.1
      refine wpAnyH_ready (rs := [4, 7]) (by kernel_rfl) (by simp) ?_
      refine AllReadyH.cons rfl (fun K hK => ?_) (AllReadyH.cons rfl (fun K hK => ?_) AllReadyH.nil)
      · go_simp
        refine hK.out _ _ (HS.out _ (fun _ _ _ _ => rfl)) (fun hHeld => ?_)
        clear hK K
        refine wpAnyH_ready (rs := [7]) (by kernel_rfl) (by simp) ?_
        refine AllReadyH.cons rfl (fun K hK => ?_) AllReadyH.nil
        go_simp
        refine hK.out _ _ (HS.out _ (fun k hk _ _ => heap_alloc_old _ _ hk)) (fun hHeld => ?_)
        clear hK K
        refine wpAnyH_ready (rs := [8]) (by kernel_rfl) (by simp) ?_
        refine AllReadyH.cons rfl (fun K hK => ?_) AllReadyH.nil
        refine step_append_lies _ (by rfl) _ _ _ (by rfl) 0 3 i0 _ 1 8 Tryz.underlying37 hi hz0 hz1 hz2 rfl (by omega) (.slice vp xs.length vc) xs.length (ics xs) (by rfl) (owns_kept HR7.out (fun k hk => heap_alloc_old w7 _ (HR7.out.lt k hk).2))
          ⟨w7.heap.size, 0, none⟩ 1 1 [.int .i64 ((n : Int) + 1)] (by rfl) (by rfl) (World.news_of_block (cs := #[.int .i64 ((n : Int) + 1)]) (t := 3) (fr := (0, 0)) (heap_alloc_new w7 _)) (by intro u hu; simp at hu; subst hu; rfl)
          (by omega) (by unfold maxLen; omega) (by omega) (by omega) (w7.heap.size + 1) (by simp) ?_
        intro gg gc w8 hown8 hgrow hat hlt8
        have hz8 := hgrow.size
        have hzA : w7.heap.size + 1 ≤ w8.heap.size := by simpa using hz8
        have hk8 : ∀ k, k < w7.heap.size → (Value.slice vp xs.length vc).ownBlock ≠ some k → w8.heap[k]? = w7.heap[k]? := fun k hk hne => (hgrow.block k (by simp; omega) (fun e => hne e.symm)).trans (heap_alloc_old w7 _ hk)
        have hng : (Value.slice vp xs.length vc).ownBlock ≠ some g := fun e => by
          rcases HR7.out.2 with ⟨e1, _⟩ | ⟨q', cap', cur, e1, _, e2, _⟩
          · rw [e1] at e; cases e
          · rw [e1] at e
            injection e with e
            have e' : q' = g := e
            subst e'
            exact HG7.out.ne e2 (by decide) rfl
        have G8 : Hid (Box w8 g (jC g dg (.slice vp xs.length vc) { J with U := U', H := H' }) 105) := (hk8 g HG7.out.lt hng).trans HG7.out
        have R8' : Hid (w8.ownsRow 0 3 1 (.slice (some ⟨gg, 0, none⟩) (xs.length + 1) gc) (xs.length + 1) (ics xs ++ [.int .i64 ((n : Int) + 1)])) := hown8
        have g8c := (box_cells G8.out).2.2.2.2.2.2.2.2.2.2.1
        have g8f := G8.out.frozen 10
        have HT8 : Hid ((Value.slice vp xs.length vc).ownBlock = some gg ∨ gg = w7.heap.size + 1) := hat
        have HK8 : Hid (∀ k, k < w7.heap.size → (Value.slice vp xs.length vc).ownBlock ≠ some k → w8.heap[k]? = w7.heap[k]?) := hk8
        have HO8 : Hid (w8.os = w7.os ∧ w8.tape = w7.tape ∧ w8.output = w7.output) := ⟨hgrow.os, hgrow.tape, hgrow.output⟩
        have hgne : gg ≠ g := fun e => by
          subst e
          rcases hown8.2 with ⟨e1, _⟩ | ⟨q', cap', cur, e1, _, e2, _⟩
          · cases e1
          · injection e1 with e1
            injection e1 with e1
            injection e1 with e1
            subst e1
            exact G8.out.ne e2 (by decide) rfl
        refine hK.out _ _ (HS.out _ (fun k hk _ hv => hk8 k hk hv)) (fun hHeld => ?_)
        clear hK K hown8 hgrow hat hk8 hng hz8
        simp only [Act.put, List.setIfInBounds_toArray, List.set_cons_zero, List.set_cons_succ, List.getElem_toArray, List.getElem_cons_zero, List.getElem_cons_succ]
        refine wpAnyH_take (i := 9) (v := ?_) rfl (by kernel_rfl) (by kernel_rfl) (by kernel_rfl) (fun _ _ _ h => h) (Or.inl ⟨by rfl, ?_⟩) (by assumption) ?_
        rotate_left
        · intro w hSw
          go_simp
          with_reducible rfl
        simp only [Act.put, List.setIfInBounds_toArray, List.set_cons_zero, List.set_cons_succ, List.getElem_toArray, List.getElem_cons_zero, List.getElem_cons_succ]
        refine wpAnyH_take (i := 10) (v := ?_) rfl (by kernel_rfl) (by kernel_rfl) (by kernel_rfl) (fun _ _ _ h => h) (Or.inl ⟨by rfl, ?_⟩) (by assumption) ?_
        rotate_left
        · intro w hSw
          go_simp
          with_reducible rfl
        simp only [Act.put, List.setIfInBounds_toArray, List.set_cons_zero, List.set_cons_succ, List.getElem_toArray, List.getElem_cons_zero, List.getElem_cons_succ]
        refine wpAnyH_ready (rs := [11]) (by kernel_rfl) (by simp) ?_
        refine AllReadyH.cons rfl (fun K hK => ?_) AllReadyH.nil
        go_simp
        refine hK.out _ _ (HS.out _ (fun k hk hkg hv => (heap_setCell_other w8 ⟨g, 10, none⟩ k _ (by simpa using hkg)).trans (HK8.out k hk hv))) (fun hHeld => ?_)
        clear hK K
        refine wpAnyH_done (by kernel_rfl) ?_ _
        refine NoPanic.normal ?_
        go_wp2_with fail
        go_meet
        case rel =>
          refine ⟨_, box_sizes G8.out _, owns_kept R8'.out (fun k hk => ?_), fun k hk => ?_, ?_⟩
          · have : gg = k := by injection hk
            subst this
            exact heap_setCell_other w8 ⟨g, 10, none⟩ gg _ (by simpa using hgne)
          · have : gg = k := by injection hk
            subst this
            rcases HT8.out with h1 | h1
            · exact .inl h1
            · exact .inr (by omega)
          · obtain ⟨o1, o2, o3⟩ := HO8.out
            have s := Dk.grown_store w8 g 10 (.slice (some ⟨gg, 0, none⟩) (xs.length + 1) gc)
            have sz := s.size
            exact ⟨s.os.trans o1, s.tape.trans o2, s.output.trans o3, by omega, fun k hk hn => (heap_setCell_other w8 ⟨g, 10, none⟩ k _ (by simpa using fun e => hn (.inl e))).trans (HK8.out k hk (fun e => hn (.inr e)))⟩
      · go_simp
        refine hK.out _ _ (HS.out _ (fun k hk _ _ => heap_alloc_old _ _ hk)) (fun hHeld => ?_)
        clear hK K
        refine wpAnyH_ready (rs := [4]) (by kernel_rfl) (by simp) ?_
        refine AllReadyH.cons rfl (fun K hK => ?_) AllReadyH.nil
        go_simp
        refine hK.out _ _ (HS.out _ (fun k hk _ _ => heap_alloc_old _ _ hk)) (fun hHeld => ?_)
        clear hK K
        refine wpAnyH_ready (rs := [8]) (by kernel_rfl) (by simp) ?_
        refine AllReadyH.cons rfl (fun K hK => ?_) AllReadyH.nil
        refine step_append_lies _ (by rfl) _ _ _ (by rfl) 0 3 i0 _ 1 8 Tryz.underlying37 hi hz0 hz1 hz2 rfl (by omega) (.slice vp xs.length vc) xs.length (ics xs) (by rfl) (owns_kept HR7.out (fun k hk => heap_alloc_old w7 _ (HR7.out.lt k hk).2))
          ⟨w7.heap.size, 0, none⟩ 1 1 [.int .i64 ((n : Int) + 1)] (by rfl) (by rfl) (World.news_of_block (cs := #[.int .i64 ((n : Int) + 1)]) (t := 3) (fr := (0, 0)) (heap_alloc_new w7 _)) (by intro u hu; simp at hu; subst hu; rfl)
          (by omega) (by unfold maxLen; omega) (by omega) (by omega) (w7.heap.size + 1) (by simp) ?_
        intro gg gc w8 hown8 hgrow hat hlt8
        have hz8 := hgrow.size
        have hzA : w7.heap.size + 1 ≤ w8.heap.size := by simpa using hz8
        have hk8 : ∀ k, k < w7.heap.size → (Value.slice vp xs.length vc).ownBlock ≠ some k → w8.heap[k]? = w7.heap[k]? := fun k hk hne => (hgrow.block k (by simp; omega) (fun e => hne e.symm)).trans (heap_alloc_old w7 _ hk)
        have hng : (Value.slice vp xs.length vc).ownBlock ≠ some g := fun e => by
          rcases HR7.out.2 with ⟨e1, _⟩ | ⟨q', cap', cur, e1, _, e2, _⟩
          · rw [e1] at e; cases e
          · rw [e1] at e
            injection e with e
            have e' : q' = g := e
            subst e'
            exact HG7.out.ne e2 (by decide) rfl
        have G8 : Hid (Box w8 g (jC g dg (.slice vp xs.length vc) { J with U := U', H := H' }) 105) := (hk8 g HG7.out.lt hng).trans HG7.out
        have R8' : Hid (w8.ownsRow 0 3 1 (.slice (some ⟨gg, 0, none⟩) (xs.length + 1) gc) (xs.length + 1) (ics xs ++ [.int .i64 ((n : Int) + 1)])) := hown8
        have g8c := (box_cells G8.out).2.2.2.2.2.2.2.2.2.2.1
        have g8f := G8.out.frozen 10
        have HT8 : Hid ((Value.slice vp xs.length vc).ownBlock = some gg ∨ gg = w7.heap.size + 1) := hat
        have HK8 : Hid (∀ k, k < w7.heap.size → (Value.slice vp xs.length vc).ownBlock ≠ some k → w8.heap[k]? = w7.heap[k]?) := hk8
        have HO8 : Hid (w8.os = w7.os ∧ w8.tape = w7.tape ∧ w8.output = w7.output) := ⟨hgrow.os, hgrow.tape, hgrow.output⟩
        have hgne : gg ≠ g := fun e => by
          subst e
          rcases hown8.2 with ⟨e1, _⟩ | ⟨q', cap', cur, e1, _, e2, _⟩
          · cases e1
          · injection e1 with e1
            injection e1 with e1
            injection e1 with e1
            subst e1
            exact G8.out.ne e2 (by decide) rfl
        refine hK.out _ _ (HS.out _ (fun k hk _ hv => hk8 k hk hv)) (fun hHeld => ?_)
        clear hK K hown8 hgrow hat hk8 hng hz8
        simp only [Act.put, List.setIfInBounds_toArray, List.set_cons_zero, List.set_cons_succ, List.getElem_toArray, List.getElem_cons_zero, List.getElem_cons_succ]
        refine wpAnyH_take (i := 9) (v := ?_) rfl (by kernel_rfl) (by kernel_rfl) (by kernel_rfl) (fun _ _ _ h => h) (Or.inl ⟨by rfl, ?_⟩) (by assumption) ?_
        rotate_left
        · intro w hSw
          go_simp
          with_reducible rfl
        simp only [Act.put, List.setIfInBounds_toArray, List.set_cons_zero, List.set_cons_succ, List.getElem_toArray, List.getElem_cons_zero, List.getElem_cons_succ]
        refine wpAnyH_take (i := 10) (v := ?_) rfl (by kernel_rfl) (by kernel_rfl) (by kernel_rfl) (fun _ _ _ h => h) (Or.inl ⟨by rfl, ?_⟩) (by assumption) ?_
        rotate_left
        · intro w hSw
          go_simp
          with_reducible rfl
        simp only [Act.put, List.setIfInBounds_toArray, List.set_cons_zero, List.set_cons_succ, List.getElem_toArray, List.getElem_cons_zero, List.getElem_cons_succ]
        refine wpAnyH_ready (rs := [11]) (by kernel_rfl) (by simp) ?_
        refine AllReadyH.cons rfl (fun K hK => ?_) AllReadyH.nil
        go_simp
        refine hK.out _ _ (HS.out _ (fun k hk hkg hv => (heap_setCell_other w8 ⟨g, 10, none⟩ k _ (by simpa using hkg)).trans (HK8.out k hk hv))) (fun hHeld => ?_)
        clear hK K
        refine wpAnyH_done (by kernel_rfl) ?_ _
        refine NoPanic.normal ?_
        go_wp2_with fail
        go_meet
        case rel =>
          refine ⟨_, box_sizes G8.out _, owns_kept R8'.out (fun k hk => ?_), fun k hk => ?_, ?_⟩
          · have : gg = k := by injection hk
            subst this
            exact heap_setCell_other w8 ⟨g, 10, none⟩ gg _ (by simpa using hgne)
          · have : gg = k := by injection hk
            subst this
            rcases HT8.out with h1 | h1
            · exact .inl h1
            · exact .inr (by omega)
          · obtain ⟨o1, o2, o3⟩ := HO8.out
            have s := Dk.grown_store w8 g 10 (.slice (some ⟨gg, 0, none⟩) (xs.length + 1) gc)
            have sz := s.size
            exact ⟨s.os.trans o1, s.tape.trans o2, s.output.trans o3, by omega, fun k hk hn => (heap_setCell_other w8 ⟨g, 10, none⟩ k _ (by simpa using fun e => hn (.inl e))).trans (HK8.out k hk (fun e => hn (.inr e)))⟩
    case rest =>
      have h8 := hcut
      have A8' : A16 w7 g dg (.slice vp xs.length vc) { J with U := U', H := H' } (xs ++ [((n + 1 : Nat) : Int)]).length (ics (xs ++ [((n + 1 : Nat) : Int)])) wc := by
        rw [ics_snoc, List.length_append]
        exact hcut
      have fin := app_end HX.out HD.out HF.out B5w HF6.out HD6.out HU6.out HU7.out A8' (J.next + 1)
      obtain ⟨vs', hb8, hr8, hv8, hu8⟩ := h8
      have a8 : Box wc w.heap.size #[.pointer (some ⟨g, 0, none⟩)] 72 := (hu8.block _ HA7.out.lt (fun h => by
        rcases h with h | h
        · exact HA7.out.ne HG7.out (by decide) h
        · rcases HR7.out.2 with ⟨e1, _⟩ | ⟨q', cap', cur, e1, _, e2, _⟩
          · rw [e1] at h; cases h
          · rw [e1] at h
            injection h with h
            have e' : q' = w.heap.size := h
            rw [e'] at e2
            exact HA7.out.ne e2 (by decide) rfl)).trans HA7.out
      have y1 := a8.cell 0
      simp at y1
      have d4 := (box_cells hb8).2.2.2.2.1
      dsimp only at d4
      have f4 := hb8.frozen 4
      clear A8' hcut HA7 HC7 HR7 HG7 hu8 hv8 hr8 a8 HU6 HU7
      go_wp2_with fail
      exact bodyPost_ret (v := .tuple #[.int .i64 J.next, .int .i64 0]) (by simp [results, Tryz.results31, go_sem]) rfl ⟨rfl, fin⟩
end Go.Proofs.YtkhejjddmbegaaaGreat.J

/-
  The law's disk with groups appended, as many as there is room for.
-/
namespace Go.Proofs.YtkhejjddmbegaaaGreat.S
open Go.RowKit
open Go.Proofs.YtkhejjddmbegaaaGreat.Dk (Box)
open Go.Proofs.YtkhejjddmbegaaaGreat.J (JD JTo ics grow owns_kept upd_below pk pk_in pick_eq)

/-- images whose memory is none of F -/
def ImF (F : Nat → Prop) (w : World) (al : Option Addr) (n cl : Nat) (is : List (Int × List UInt8)) : Prop :=
  ∃ qs : List Rc.GG, w.ownsRow 0 108 2 (.slice al n cl) n (Rc.imgC qs) ∧ Rc.GetJ 0 w qs ∧ qs.length = n ∧ qs.map (fun p => (p.b, p.xs)) = is ∧ (∀ k, (Value.slice al n cl).ownBlock = some k → ¬ F k) ∧ ∀ q ∈ qs, ¬ F q.h
section
variable {F F' : Nat → Prop} {w w' : World} {al : Option Addr} {n cl : Nat} {is : List (Int × List UInt8)}
theorem ImF.upd (h : ImF F w al n cl is) (u : Dk.Upd F w w') (hF : ∀ i, F' i → F i ∨ w.heap.size ≤ i) : ImF F' w' al n cl is := by
  obtain ⟨qs, h1, h2, h3, h4, h5, h6⟩ := h
  refine ⟨qs, owns_kept h1 (fun k hk => u.block k (h1.lt k hk).2 (h5 k hk)), ⟨fun p hp => ?_, h2.apart⟩, h3, h4, fun k hk hf => (hF k hf).elim (h5 k hk) (fun h => by have := (h1.lt k hk).2; omega), fun q hq hf => (hF q.h hf).elim (h6 q hq) (fun h => by have := (h2.rows q hq).1.lt; omega)⟩
  obtain ⟨a1, a2⟩ := h2.rows p hp
  exact ⟨a1.same (u.block p.h a1.lt (h6 p hp)), a2⟩
theorem ImF.keep (h : ImF F w al n cl is) (hk : ∀ k, k < w.heap.size → ¬ F k → w'.heap[k]? = w.heap[k]?) : ImF F w' al n cl is := by
  obtain ⟨qs, h1, h2, h3, h4, h5, h6⟩ := h
  refine ⟨qs, owns_kept h1 (fun k hk' => hk k (h1.lt k hk').2 (h5 k hk')), ⟨fun p hp => ?_, h2.apart⟩, h3, h4, h5, h6⟩
  obtain ⟨a1, a2⟩ := h2.rows p hp
  exact ⟨a1.same (hk p.h a1.lt (h6 p hp)), a2⟩
theorem ImF.below (h : ImF F w al n cl is) (b : Below w.heap.size w w') : ImF F w' al n cl is := h.upd (upd_below b) (fun _ h => .inl h)
theorem ImF.imgs (h : ImF F w al n cl is) : Rc.Imgs w al is := by
  obtain ⟨qs, h1, h2, h3, h4, _⟩ := h
  have := Rc.imgs_of h1 h2 h3
  rwa [h4] at this
theorem ImF.kept (h : ImF F w al n cl is) (hk : ∀ k, k < w.heap.size → (∀ cur, ¬ Box w k cur 38) → w'.heap[k]? = w.heap[k]?) : ImF F w' al n cl is := by
  obtain ⟨qs, h1, h2, h3, h4, h5, h6⟩ := h
  refine ⟨qs, owns_kept h1 (fun k hk' => hk k (h1.lt k hk').2 (fun cur hb => ?_)), ⟨fun p hp => ?_, h2.apart⟩, h3, h4, h5, h6⟩
  · obtain ⟨_, cur', hb'⟩ := Rc.owns_block h1 k hk'
    exact hb.ne hb' (by decide) rfl
  · obtain ⟨a1, a2⟩ := h2.rows p hp
    refine ⟨a1.same (hk p.h a1.lt (fun cur hb => ?_)), a2⟩
    obtain ⟨cur', hb', _⟩ := a1
    exact hb.ne hb' (by decide) rfl
end


/-- a group that was appended: how many images, what they were made of, where they lie -/
structure G9 where
  n : Nat
  z : Int
  al : Option Addr
  cl : Nat
/-- the law's disk and what was appended to it -/
structure W9 where
  D : Dk.DS
  U : Nat
  gs : List (Nat × Int)
/-- so many images are made of z -/
def n9 (z : Int) : Nat := 1 + (pk z 5).toNat
theorem n9_in (z : Int) : 1 ≤ n9 z ∧ n9 z ≤ 5 := by
  have := pk_in z 5 (by decide)
  unfold n9
  omega
open Classical in
/-- one more, if there is room -/
noncomputable def step9 (e t : Nat) (s : W9) (z : Int) : W9 :=
  if s.U + (n9 z + 1) ≤ 16 then ⟨grow s.D 16 ((t + s.U) % 16) (Rc.putL e (s.gs.length + 1) (im9 z (n9 z))) (n9 z + 1), s.U + (n9 z + 1), s.gs ++ [(n9 z, z)]⟩ else s
/-- behind the first k numbers -/
noncomputable def st9 (e t : Nat) (zs : List Int) (k : Nat) : W9 := (zs.take k).foldl (step9 e t) ⟨Dk.DS.new 64 (Dk.nought (64 * 4096)), 0, []⟩
theorem st9_succ (e t : Nat) (zs : List Int) (k : Nat) (h : k < zs.length) : st9 e t zs (k + 1) = step9 e t (st9 e t zs k) zs[k] := by
  unfold st9
  rw [List.take_succ_eq_append_getElem h, List.foldl_append]
  rfl
/-- what holds of each -/
def Ok9 (s : W9) (k : Nat) : Prop := J.Calm s.D ∧ s.D.nb = 64 ∧ s.D.uf.length ≤ 6 * k ∧ s.D.n ≤ 6 * k ∧ s.U ≤ 16 ∧ s.gs.length ≤ k ∧ ∀ q ∈ s.gs, 1 ≤ q.1 ∧ q.1 ≤ 5
theorem ok9_step {s : W9} {k : Nat} (h : Ok9 s k) (e t : Nat) (z : Int) : Ok9 (step9 e t s z) (k + 1) := by
  obtain ⟨h1, h2, h3, h4, h5, h6, h7⟩ := h
  have hn := n9_in z
  unfold step9
  split
  · rename_i hr
    refine ⟨h1, h2, ?_, ?_, hr, by simp; omega, fun q hq => ?_⟩
    · show (s.D.uf ++ J.wrs 16 _ _ (n9 z + 1)).length ≤ _
      rw [List.length_append, J.wrs_length]
      omega
    · show s.D.n + (n9 z + 1) ≤ _
      omega
    · rcases List.mem_append.1 hq with hq | hq
      · exact h7 q hq
      · obtain rfl : q = (n9 z, z) := by simpa using hq
        exact hn
  · exact ⟨h1, h2, by omega, by omega, h5, by omega, h7⟩
theorem ok9 (e t : Nat) (zs : List Int) : ∀ k, k ≤ zs.length → Ok9 (st9 e t zs k) k
  | 0, _ => ⟨J.calm_new _ _, rfl, Nat.le_refl _, Nat.le_refl _, Nat.zero_le _, Nat.le_refl _, fun q hq => (by cases hq)⟩
  | k + 1, h => by rw [st9_succ e t zs k (by omega)]; exact ok9_step (ok9 e t zs k (by omega)) e t _
/-- the groups' sizes -/
def sz9 (gs : List (Nat × Int)) : List Int := gs.map fun q => ((q.1 + 1 : Nat) : Int)
/-- the lists of images as cells -/
def alC (qs : List G9) : List Value := qs.map fun q => .slice q.al q.n q.cl
/-- all of it in memory -/
structure Sw (w : World) (g dg e t : Nat) (s : W9) (v : Value) (qs : List G9) (u : World) : Prop where
  ex : ∃ F, JD u g dg ⟨2, (e : Int), ((s.gs.length + 1 : Nat) : Int), 0, 16, (t : Int), (s.U : Int), 0, false⟩ (sz9 s.gs) s.D F ∧ (∀ q ∈ qs, ImF (fun k => F k ∨ k < w.heap.size) u q.al q.n q.cl (im9 q.z q.n)) ∧ (∀ k, v.ownBlock = some k → ¬ F k) ∧ (∀ k, F k → w.heap.size ≤ k)
  row : u.ownsRow w.heap.size 38 1 v qs.length (alC qs)
  same : qs.map (fun q => (q.n, q.z)) = s.gs
  bel : Below w.heap.size w u

theorem img_len9 (f : Nat → List UInt8) (n : Nat) (hf : ∀ i, (f i).length = 4096) : ∀ i ∈ (List.range n).map fun (i : Nat) => ((30 + (i : Int) : Int), f i), i.2.length = 4096 := by
  intro i hi
  obtain ⟨j, _, e⟩ := List.mem_map.1 hi
  rw [← e]
  exact hf j
theorem madeL_len (s : Int) (n : Nat) : (Rc.madeL s n).length = n := Rc.madeK_length s n n
/-- the images are right ones -/
theorem im9_ok (e s : Int) (z : Int) (n : Nat) (h1 : 1 ≤ n) (h2 : n ≤ 32) (hs : Rc.okStamp e s = true) : Rc.okGroup e s (im9 z n) := by
  have hf : (im9 z n).map (·.1) = (List.range n).map fun (i : Nat) => 30 + (i : Int) := by
    refine List.ext_getElem (by simp [im9]) fun i _ _ => ?_
    simp [im9]
  refine ⟨⟨hs, ?_, ?_⟩, fun i hi => ?_⟩
  · rw [hf]
    simpa using ⟨h1, h2⟩
  · rw [hf]
    intro j hj _
    simp only [List.length_map, List.length_range] at hj
    rw [List.getElem_map, List.getElem_range]
    refine ⟨by omega, fun hm => ?_⟩
    obtain ⟨i, hi, hie⟩ := List.getElem_of_mem hm
    have hi2 : i < j := by simp at hi; omega
    simp at hie
    omega
  · exact img_len9 (fun i => Rc.madeL (IntKind.i64.wrap (z + (i : Int))) 4096) n (fun i => madeL_len (IntKind.i64.wrap (z + (i : Int))) 4096) i hi

section
variable {w u u' : World} {g dg e t : Nat} {s : W9} {v : Value} {qs : List G9}
/-- beside it images that were made -/
structure SwI (w : World) (g dg e t : Nat) (s : W9) (v : Value) (qs : List G9) (q : G9) (u : World) : Prop where
  ex : ∃ F, (JD u g dg ⟨2, (e : Int), ((s.gs.length + 1 : Nat) : Int), 0, 16, (t : Int), (s.U : Int), 0, false⟩ (sz9 s.gs) s.D F ∧ (∀ q ∈ qs, ImF (fun k => F k ∨ k < w.heap.size) u q.al q.n q.cl (im9 q.z q.n)) ∧ (∀ k, v.ownBlock = some k → ¬ F k) ∧ (∀ k, F k → w.heap.size ≤ k)) ∧ ImF (fun k => F k ∨ k < w.heap.size) u q.al q.n q.cl (im9 q.z q.n)
  row : u.ownsRow w.heap.size 38 1 v qs.length (alC qs)
  same : qs.map (fun q => (q.n, q.z)) = s.gs
  bel : Below w.heap.size w u
theorem Sw.below (h : Sw w g dg e t s v qs u) (b : Below u.heap.size u u') : Sw w g dg e t s v qs u' := by
  obtain ⟨⟨F, j, im, hv, hF⟩, r, sm, bl⟩ := h
  exact ⟨⟨F, j.below j.flt b b.size, fun q hq => (im q hq).below b, hv, hF⟩, Rc.owns_below r b, sm, bl.trans (b.mono bl.size)⟩
theorem Sw.img {q : G9} (h : Sw w g dg e t s v qs u) (hI : ∀ F : Nat → Prop, (∀ k, F k → k < u.heap.size) → ImF F u' q.al q.n q.cl (im9 q.z q.n)) (b : Below u.heap.size u u') : SwI w g dg e t s v qs q u' := by
  obtain ⟨⟨F, j, im, hv, hF⟩, r, sm, bl⟩ := h
  exact ⟨⟨F, ⟨j.below j.flt b b.size, fun q hq => (im q hq).below b, hv, hF⟩, hI _ (fun k hk => hk.elim (j.flt k) (fun h => Nat.lt_of_lt_of_le h bl.size))⟩, Rc.owns_below r b, sm, bl.trans (b.mono bl.size)⟩
theorem SwI.sw {q : G9} (h : SwI w g dg e t s v qs q u) : Sw w g dg e t s v qs u := by
  obtain ⟨⟨F, x, _⟩, r, sm, bl⟩ := h
  exact ⟨⟨F, x⟩, r, sm, bl⟩
theorem images9_imf (w : World) (n : Nat) (z : Int) (hn : n ≤ 40) :
    Calls Tryz.prog 30 #[.int .i64 (n : Int), .int .i64 z] w fun r w' => ∃ a' c', r = .returned (.slice a' n c') ∧ (∀ F : Nat → Prop, (∀ i, F i → i < w.heap.size) → ImF F w' a' n c' (im9 z n)) ∧ Below w.heap.size w w' := by
  refine (images9_at w n z hn).mono ?_
  rintro r w' ⟨a', c', qs, rfl, ho, hj, hq, hb⟩
  have hlen : qs.length = n := by
    have := congrArg List.length hq
    simpa [im9_length] using this
  refine ⟨a', c', rfl, fun F hF => ⟨qs, ?_, ⟨fun p hp => ?_, hj.apart⟩, hlen, hq, fun k hk hf => ?_, fun q hq' hf => ?_⟩, hb⟩
  · refine ⟨ho.1, ?_⟩
    rcases ho.2 with h1 | ⟨g', cap, cur, e, _, r⟩
    · exact .inl h1
    · exact .inr ⟨g', cap, cur, e, Nat.zero_le _, r⟩
  · obtain ⟨a1, _, a3⟩ := hj.rows p hp
    exact ⟨a1, Nat.zero_le _, a3⟩
  · have := (ho.lt k hk).1
    have := hF k hf
    omega
  · have := (hj.rows q hq').2.1
    have := hF q.h hf
    omega
end
end Go.Proofs.YtkhejjddmbegaaaGreat.S

/-
  Groups behind one another in a ring, of which a crash may have left anything: what is told is a beginning of them. No walk here.
-/
namespace Go.Proofs.YtkhejjddmbegaaaGreat.S
open Go.RowKit

/-- groups, one behind the other, as blocks -/
def blks (E : Nat) : Nat → List (List (Int × List UInt8)) → List (List UInt8)
  | _, [] => []
  | s, is :: r => Rc.putL E s is ++ blks E (s + 1) r
/-- all of them are right -/
def okAll (E : Nat) : Nat → List (List (Int × List UInt8)) → Prop
  | _, [] => True
  | s, is :: r => Rc.okGroup E s is ∧ okAll E (s + 1) r
/-- the block at so many places behind the tail -/
def rg (D : Dk.DS) (t i : Nat) : List UInt8 := D.stand (2 + (t + i) % 16)
/-- a stamp of this epoch is not borne -/
def noMark (E : Nat) (xs : List UInt8) : Prop := ∀ s, s ≤ 549755813888 → xs.take 8 ≠ Rc.mark E s
/-- from b on each sector is that of the blocks L, or bears no stamp of the epoch -/
def Mixd (D : Dk.DS) (t E b : Nat) (L : List (List UInt8)) : Prop :=
  ∀ i, b ≤ i → i < 16 → ∀ x : Fin 8, (∃ h : i - b < L.length, Rc.sec (rg D t i) x.val = Rc.sec L[i - b] x.val) ∨ noMark E (Rc.sec (rg D t i) x.val)

theorem ringB_get (D : Dk.DS) (t b k i : Nat) (h : i < (ringB D t b k).length) : (ringB D t b k)[i] = rg D t (b + i) := by simp [ringB, rg]
theorem ring0 (D : Dk.DS) (t b k : Nat) : (ringB D t b (k + 1))[0]?.getD [] = rg D t b := ringB_head D t b k

section
variable {D : Dk.DS} {t E b s : Nat}
/-- all sectors of a group's blocks bear its stamp -/
theorem gok_marks (h : GOk D t E b s) (i : Nat) (hi : i < cntAt D t b + 1) (x : Fin 8) : (Rc.sec (rg D t (b + i)) x.val).take 8 = Rc.mark E s := by
  obtain ⟨⟨h1, h2, h3⟩, _, hg⟩ := h
  have h4 := Rc.grp_marks hg i (by rw [ringB_length]; exact hi) x
  rw [ringB_get, ring0] at h4
  unfold rg at h4 ⊢
  rw [h2, h3] at h4
  exact h4
theorem gok_len (h : GOk D t E b s) (i : Nat) (hi : i < cntAt D t b + 1) : (rg D t (b + i)).length = 4096 := by
  have h4 := Rc.grp_len h.2.2 i (by rw [ringB_length]; exact hi)
  rw [ringB_get] at h4
  exact h4
theorem gok_s (h : GOk D t E b s) : s ≤ 549755813888 ∧ E ≤ 8388608 ∧ 1 ≤ s ∧ 1 ≤ E := by
  have h1 := (Rc.okStamp_iff _ _).1 (Rc.grp_ok h.2.2)
  rw [ring0] at h1
  obtain ⟨⟨_, h2, h3⟩, _⟩ := h
  unfold rg at h1
  rw [h2, h3] at h1
  omega
/-- a whole group that lies there is one -/
theorem gok_of (is : List (Int × List UInt8)) (hok : Rc.okGroup E s is) (hb : b + (is.length + 1) ≤ 16) (hr : ∀ i (h : i < (Rc.putL E s is).length), rg D t (b + i) = (Rc.putL E s is)[i]) :
    GOk D t E b s ∧ cntAt D t b = is.length ∧ ringB D t b (is.length + 1) = Rc.putL E s is := by
  have h0 : rg D t b = Rc.headB E s (Rc.entL (Rc.mark E s) is) := hr 0 (by simp [Rc.putL])
  obtain ⟨q1, q2, q3⟩ := Rc.put_said hok
  have hc : cntAt D t b = is.length := by
    unfold cntAt
    show (Rc.saidEs (rg D t b)).length = _
    rw [h0, q3, Rc.entL_length]
  have hl : (Rc.putL E s is).length = is.length + 1 := by simp [Rc.putL]
  have hR : ringB D t b (is.length + 1) = Rc.putL E s is := by
    refine List.ext_getElem (by rw [ringB_length, hl]) (fun i h1 h2 => ?_)
    rw [ringB_get, hr i h2]
  refine ⟨⟨⟨?_, ?_, ?_⟩, by rw [hc]; exact hb, by rw [hc, hR]; exact Rc.put_grp hok⟩, hc, hR⟩
  · show Rc.isHead (rg D t b); rw [h0]; exact Rc.put_head hok
  · show Rc.saidE (rg D t b) = _; rw [h0]; exact q1
  · show Rc.saidS (rg D t b) = _; rw [h0]; exact q2
theorem gimgs_of (is : List (Int × List UInt8)) (hok : Rc.okGroup E s is) (hc : cntAt D t b = is.length) (hR : ringB D t b (is.length + 1) = Rc.putL E s is) : gimgs D t b = is := by
  have h0 : rg D t b = Rc.headB E s (Rc.entL (Rc.mark E s) is) := by
    have := ring0 D t b is.length
    rw [hR] at this
    exact this.symm
  unfold gimgs
  show Rc.imgsTo _ (Rc.saidEs (rg D t b)) _ = _
  rw [hc, hR, h0, (Rc.put_said hok).2.2]
  exact Rc.put_imgs hok
end

theorem blks_cons (E s : Nat) (is : List (Int × List UInt8)) (r : List (List (Int × List UInt8))) : blks E s (is :: r) = Rc.putL E s is ++ blks E (s + 1) r := rfl
theorem putL_length' (E s : Nat) (is : List (Int × List UInt8)) : (Rc.putL E s is).length = is.length + 1 := by simp [Rc.putL]

/-- the next group: if one is told, it is the next of those that were written -/
theorem next_of {D : Dk.DS} {t E b s : Nat} {iss : List (List (Int × List UInt8))} (hok : okAll E s iss) (hm : Mixd D t E b (blks E s iss)) (h : GOk D t E b s) :
    ∃ is r, iss = is :: r ∧ cntAt D t b = is.length ∧ gimgs D t b = is := by
  have hs := gok_s h
  have hfit := h.2.1
  have all : ∀ i, i < cntAt D t b + 1 → ∀ x : Fin 8, ∃ h : i < (blks E s iss).length, Rc.sec (rg D t (b + i)) x.val = Rc.sec (blks E s iss)[i] x.val := fun i hi x => by
    rcases hm (b + i) (by omega) (by omega) x with ⟨h1, h2⟩ | h1
    · have e : b + i - b = i := by omega
      refine ⟨by omega, ?_⟩
      simpa only [e] using h2
    · exact absurd (gok_marks h i hi x) (h1 s hs.1)
  cases iss with
  | nil =>
    obtain ⟨h1, _⟩ := all 0 (by omega) 0
    exact absurd h1 (by simp [blks])
  | cons is r =>
    obtain ⟨ok1, ok2⟩ := hok
    have hl := putL_length' E s is
    have blk : ∀ i, i < cntAt D t b + 1 → ∀ h' : i < (Rc.putL E s is).length, rg D t (b + i) = (Rc.putL E s is)[i] := fun i hi h' => by
      rw [← Rc.cat_sec _ (gok_len h i hi), ← Rc.cat_sec _ (Rc.grp_len (Rc.put_grp ok1) i h')]
      congr 1
      funext x
      obtain ⟨_, h2⟩ := all i hi x
      rw [h2]
      simp only [blks_cons]
      rw [List.getElem_append_left h']
    have h0 : rg D t b = Rc.headB E s (Rc.entL (Rc.mark E s) is) := blk 0 (by omega) (by omega)
    have hc : cntAt D t b = is.length := by
      unfold cntAt
      show (Rc.saidEs (rg D t b)).length = _
      rw [h0, (Rc.put_said ok1).2.2, Rc.entL_length]
    have hR : ringB D t b (is.length + 1) = Rc.putL E s is := by
      refine List.ext_getElem (by rw [ringB_length, hl]) (fun i h1 h2 => ?_)
      rw [ringB_get, blk i (by omega) h2]
    exact ⟨is, r, rfl, hc, gimgs_of is ok1 hc hR⟩

theorem Mixd.tail {D : Dk.DS} {t E b s : Nat} {is : List (Int × List UInt8)} {r : List (List (Int × List UInt8))} (hm : Mixd D t E b (blks E s (is :: r))) : Mixd D t E (b + (is.length + 1)) (blks E (s + 1) r) := fun i hi h16 x => by
  have hl := putL_length' E s is
  rcases hm i (by omega) h16 x with ⟨h1, h2⟩ | h1
  · left
    have e : i - b - (is.length + 1) = i - (b + (is.length + 1)) := by omega
    have hlen : (blks E s (is :: r)).length = is.length + 1 + (blks E (s + 1) r).length := by rw [blks_cons, List.length_append, hl]
    refine ⟨by omega, ?_⟩
    rw [h2]
    simp only [blks_cons]
    rw [List.getElem_append_right (by omega)]
    simp only [hl, e]
  · exact .inr h1

/-- what is told is a beginning of what was written -/
theorem run_mixd {D : Dk.DS} {t E : Nat} : ∀ {xs : List Gx} {iss : List (List (Int × List UInt8))} {b s : Nat}, okAll E s iss → Mixd D t E b (blks E s iss) → Run D t E b s xs → xs.length ≤ iss.length ∧ xs.map (fun x => gimgs D t x.b) = iss.take xs.length
  | [], iss, b, s, _, _, _ => ⟨Nat.zero_le _, rfl⟩
  | x :: r, iss, b, s, hok, hm, hr => by
    obtain ⟨⟨hb, hs, hg, hx⟩, hr'⟩ := hr
    obtain ⟨is, r', rfl, hc, hi⟩ := next_of hok hm hg
    rw [hc] at hr'
    obtain ⟨q1, q2⟩ := run_mixd hok.2 hm.tail hr'
    refine ⟨by simp; omega, ?_⟩
    simp only [List.map_cons, List.length_cons, List.take_succ_cons, q2, hb, hi]
/-- of a whole ring all is told -/
theorem run_whole {D : Dk.DS} {t E : Nat} : ∀ {xs : List Gx} {iss : List (List (Int × List UInt8))} {b s : Nat}, okAll E s iss → (∀ i (h : i < (blks E s iss).length), rg D t (b + i) = (blks E s iss)[i]) → b + (blks E s iss).length ≤ 16 → Run D t E b s xs → iss.length ≤ xs.length
  | xs, [], b, s, _, _, _, _ => Nat.zero_le _
  | xs, is :: r, b, s, hok, hw, hf, hr => by
    have hl := putL_length' E s is
    have hlen : (blks E s (is :: r)).length = is.length + 1 + (blks E (s + 1) r).length := by rw [blks_cons, List.length_append, hl]
    obtain ⟨g1, g2, g3⟩ := gok_of (D := D) (t := t) (b := b) is hok.1 (by omega) (fun i h => by
      rw [hw i (by omega)]
      simp only [blks_cons]
      rw [List.getElem_append_left h])
    cases xs with
    | nil => exact absurd g1 hr
    | cons x xs =>
      obtain ⟨_, hr'⟩ := hr
      rw [g2] at hr'
      have := run_whole hok.2 (b := b + (is.length + 1)) (fun i h => by
        rw [show b + (is.length + 1) + i = b + (is.length + 1 + i) by omega, hw (is.length + 1 + i) (by omega)]
        simp only [blks_cons]
        rw [List.getElem_append_right (by omega)]
        simp only [hl, Nat.add_sub_cancel_left]) (by omega) hr'
      simp
      exact this
theorem Run.seq {D : Dk.DS} {t E : Nat} : ∀ {xs : List Gx} {b s : Nat}, Run D t E b s xs → ∀ j (h : j < xs.length), xs[j].s = s + j
  | x :: r, b, s, ⟨⟨_, hs, _⟩, hr⟩, j, h => by
    cases j with
    | zero => simpa using hs
    | succ j =>
      have := hr.seq j (by simpa using h)
      simp only [List.getElem_cons_succ, this]
      omega
theorem Run.cnt {D : Dk.DS} {t E : Nat} : ∀ {xs : List Gx} {b s : Nat}, Run D t E b s xs → ∀ x ∈ xs, x.m = (gimgs D t x.b).length ∧ 1 ≤ x.m ∧ x.m ≤ 32
  | x :: r, b, s, ⟨⟨hb, hs, hg, hx⟩, hr⟩, y, hy => by
    rcases List.mem_cons.1 hy with rfl | hy
    · have hm : 1 ≤ cntAt D t b ∧ cntAt D t b ≤ 32 := by
        have h := hg.1.1.2.1.2.1
        simpa [cntAt] using h
      rw [hb, hx]
      exact ⟨by simp [gimgs, Rc.imgsTo], hm⟩
    · exact hr.cnt y hy

/-- how long they are -/
theorem blks_length (E : Nat) : ∀ (iss : List (List (Int × List UInt8))) (s : Nat), (blks E s iss).length = (iss.map fun is => is.length + 1).sum
  | [], _ => rfl
  | is :: r, s => by rw [blks_cons, List.length_append, blks_length E r, putL_length']; simp
theorem blks_snoc (E : Nat) : ∀ (iss : List (List (Int × List UInt8))) (s : Nat) (is : List (Int × List UInt8)), blks E s (iss ++ [is]) = blks E s iss ++ Rc.putL E (s + iss.length) is
  | [], s, is => by simp [blks]
  | i :: r, s, is => by
    rw [List.cons_append, blks_cons, blks_cons, blks_snoc E r (s + 1) is, List.append_assoc, List.length_cons]
    congr 3
    omega
theorem okAll_snoc {E : Nat} : ∀ {iss : List (List (Int × List UInt8))} {s : Nat} {is : List (Int × List UInt8)}, okAll E s iss → Rc.okGroup E (s + iss.length : Nat) is → okAll E s (iss ++ [is])
  | [], s, is, _, h => ⟨by simpa using h, trivial⟩
  | i :: r, s, is, ⟨h1, h2⟩, h => ⟨h1, okAll_snoc h2 (by rw [show s + 1 + r.length = s + (i :: r).length by simp; omega]; exact h)⟩
theorem okAll_marks {E : Nat} : ∀ {iss : List (List (Int × List UInt8))} {s : Nat}, okAll E s iss → ∀ i (h : i < (blks E s iss).length), (blks E s iss)[i].length = 4096 ∧ ∃ k, k < iss.length ∧ ∀ x : Fin 8, (Rc.sec (blks E s iss)[i] x.val).take 8 = Rc.mark E (s + k)
  | [], s, _, i, h => absurd h (by simp [blks])
  | is :: r, s, ⟨h1, h2⟩, i, h => by
    have hl := putL_length' E s is
    by_cases hi : i < (Rc.putL E s is).length
    · have e : (blks E s (is :: r))[i] = (Rc.putL E s is)[i] := by simp only [blks_cons]; rw [List.getElem_append_left hi]
      rw [e]
      exact ⟨Rc.grp_len (Rc.put_grp h1) i hi, 0, by simp, fun x => by rw [Nat.add_zero]; exact Rc.put_marks h1 i hi x⟩
    · have hlen : (blks E s (is :: r)).length = is.length + 1 + (blks E (s + 1) r).length := by rw [blks_cons, List.length_append, hl]
      have hi2 : i - (Rc.putL E s is).length < (blks E (s + 1) r).length := by omega
      have e : (blks E s (is :: r))[i] = (blks E (s + 1) r)[i - (Rc.putL E s is).length] := by simp only [blks_cons]; rw [List.getElem_append_right (by omega)]
      rw [e]
      obtain ⟨q1, k, q2, q3⟩ := okAll_marks h2 (i - (Rc.putL E s is).length) hi2
      exact ⟨q1, k + 1, by simp; omega, fun x => by rw [q3 x, show s + 1 + k = s + (k + 1) by omega]⟩

/-- the law's groups -/
def iss9 (gs : List (Nat × Int)) : List (List (Int × List UInt8)) := gs.map fun q => im9 q.2 q.1
/-- the law's disk: all that was written, in order -/
theorem st9_uf (e t : Nat) (ht : t < 16) (zs : List Int) : ∀ k, k ≤ zs.length → (st9 e t zs k).D.dur = Dk.nought (64 * 4096) ∧ (st9 e t zs k).U = (blks e 1 (iss9 (st9 e t zs k).gs)).length ∧ (st9 e t zs k).D.uf = J.wrs 16 t (blks e 1 (iss9 (st9 e t zs k).gs)) (st9 e t zs k).U
  | 0, _ => ⟨rfl, rfl, rfl⟩
  | k + 1, h => by
    obtain ⟨h1, h2, h3⟩ := st9_uf e t ht zs k (by omega)
    rw [st9_succ e t zs k (by omega)]
    generalize (zs[k]'(by omega)) = z
    generalize st9 e t zs k = s at h1 h2 h3 ⊢
    unfold step9
    split
    · rename_i hr
      have ei : iss9 (s.gs ++ [(n9 z, z)]) = iss9 s.gs ++ [im9 z (n9 z)] := by simp [iss9]
      have el : (iss9 s.gs).length = s.gs.length := by simp [iss9]
      have eb : blks e 1 (iss9 (s.gs ++ [(n9 z, z)])) = blks e 1 (iss9 s.gs) ++ Rc.putL e (s.gs.length + 1) (im9 z (n9 z)) := by rw [ei, blks_snoc, el, Nat.add_comm 1]
      have hp : (Rc.putL e (s.gs.length + 1) (im9 z (n9 z))).length = n9 z + 1 := by rw [putL_length', im9_length]
      refine ⟨h1, ?_, ?_⟩
      · show s.U + (n9 z + 1) = _
        rw [eb, List.length_append, hp, h2]
      · show s.D.uf ++ J.wrs 16 ((t + s.U) % 16) _ (n9 z + 1) = J.wrs 16 t _ (s.U + (n9 z + 1))
        rw [h3, eb]
        unfold J.wrs
        have hrr : List.range (s.U + (n9 z + 1)) = List.range s.U ++ (List.range (n9 z + 1)).map (s.U + ·) := List.range_add
        rw [hrr, List.map_append, List.map_map]
        congr 1
        · refine List.map_congr_left fun i hi => ?_
          have hi' : i < s.U := by simpa using hi
          rw [List.getD_eq_getElem?_getD, List.getD_eq_getElem?_getD, List.getElem?_append_left (by omega)]
        · refine List.map_congr_left fun i hi => ?_
          show _ = (2 + (t + (s.U + i)) % 16, (blks e 1 (iss9 s.gs) ++ Rc.putL e (s.gs.length + 1) (im9 z (n9 z))).getD (s.U + i) [])
          rw [List.getD_eq_getElem?_getD, List.getD_eq_getElem?_getD, List.getElem?_append_right (by omega), h2, Nat.add_sub_cancel_left]
          congr 2
          omega
    · exact ⟨h1, h2, h3⟩
theorem st9_ok (e t : Nat) (he : 1 ≤ e ∧ e ≤ 9) (zs : List Int) : ∀ k, k ≤ zs.length → k ≤ 12 → okAll e 1 (iss9 (st9 e t zs k).gs)
  | 0, _, _ => trivial
  | k + 1, h, h12 => by
    have ih := st9_ok e t he zs k (by omega) (by omega)
    have hk := ok9 e t zs k (by omega)
    rw [st9_succ e t zs k (by omega)]
    generalize (zs[k]'(by omega)) = z
    generalize st9 e t zs k = s at ih hk ⊢
    unfold step9
    split
    · have ei : iss9 (s.gs ++ [(n9 z, z)]) = iss9 s.gs ++ [im9 z (n9 z)] := by simp [iss9]
      have el : (iss9 s.gs).length = s.gs.length := by simp [iss9]
      have hn := n9_in z
      have hg := hk.2.2.2.2.2.1
      show okAll e 1 (iss9 (s.gs ++ [(n9 z, z)]))
      rw [ei]
      refine okAll_snoc ih (im9_ok _ _ z (n9 z) (by omega) (by omega) ((Rc.okStamp_iff _ _).2 (by omega)))
    · exact ih
end Go.Proofs.YtkhejjddmbegaaaGreat.S

/-
  What the blocks of the law's ring are, behind writes, a flush, a crash. No walk here.
-/
namespace Go.Proofs.YtkhejjddmbegaaaGreat.S
open Go.RowKit

theorem sec_eq (xs : List UInt8) (k : Nat) : Dk.sec xs k = Rc.sec xs k := rfl
/-- what stands in the ring behind such writes -/
theorem rg_in {D : Dk.DS} {t : Nat} {L : List (List UInt8)} (hu : D.uf = J.wrs 16 t L L.length) (hL : L.length ≤ 16) (i : Nat) (h : i < L.length) : rg D t i = L[i] := by
  have h1 := J.grow_in (Dk.DS.new D.nb D.dur) t L i L.length h hL
  have h2 : (J.grow (Dk.DS.new D.nb D.dur) 16 t L L.length).stand (2 + (t + i) % 16) = D.stand (2 + (t + i) % 16) := by
    unfold Dk.DS.stand
    rw [hu]
    rfl
  unfold rg
  rw [← h2, h1]
  simp [h]
theorem rg_out {D : Dk.DS} {t : Nat} {L : List (List UInt8)} (hu : D.uf = J.wrs 16 t L L.length) (i : Nat) (h : L.length ≤ i) (h16 : i < 16) : rg D t i = Dk.blk D.dur (2 + (t + i) % 16) := by
  have h1 := J.grow_out (Dk.DS.new D.nb D.dur) 16 t L (2 + (t + i) % 16) L.length (fun j hj => by omega)
  have h2 : (J.grow (Dk.DS.new D.nb D.dur) 16 t L L.length).stand (2 + (t + i) % 16) = D.stand (2 + (t + i) % 16) := by
    unfold Dk.DS.stand
    rw [hu]
    rfl
  unfold rg
  rw [← h2, h1]
  rfl
theorem blk_nought (n p : Nat) (h : p * 4096 + 4096 ≤ n) : Dk.blk (Dk.nought n) p = List.replicate 4096 0 := by
  unfold Dk.blk Dk.nought
  rw [List.drop_replicate, List.take_replicate]
  congr 1
  omega
theorem sec_zero (x : Fin 8) : (Rc.sec (List.replicate 4096 0) x.val).take 8 = List.replicate 8 0 := by
  have := x.isLt
  unfold Rc.sec
  rw [List.drop_replicate, List.take_replicate, List.take_replicate]
  congr 1
  omega
theorem noMark_zero {E : Nat} (h1 : 1 ≤ E) (h2 : E ≤ 8388608) (x : Fin 8) : noMark E (Rc.sec (List.replicate 4096 0) x.val) := fun s hs h => by
  rw [sec_zero] at h
  exact Rc.mark_ne h1 h2 hs h.symm
/-- blocks that no epoch E has written -/
def NoE (D : Dk.DS) (t E : Nat) : Prop := ∀ i, i < 16 → ∀ x : Fin 8, noMark E (Rc.sec (Dk.blk D.dur (2 + (t + i) % 16)) x.val)
theorem noE_new {D : Dk.DS} {t E : Nat} (hd : D.dur = Dk.nought (64 * 4096)) (h1 : 1 ≤ E) (h2 : E ≤ 8388608) : NoE D t E := fun i hi x => by
  rw [hd, blk_nought _ _ (by omega)]
  exact noMark_zero h1 h2 x
/-- nothing crashed: all is there, and no more -/
theorem mixd_stand {D : Dk.DS} {t E : Nat} {L : List (List UInt8)} (hu : D.uf = J.wrs 16 t L L.length) (hL : L.length ≤ 16) (hn : NoE D t E) : Mixd D t E 0 L := fun i _ h16 x => by
  by_cases h : i < L.length
  · left
    refine ⟨by omega, ?_⟩
    rw [rg_in hu hL i h]
    rfl
  · right
    rw [rg_out hu i (by omega) h16]
    exact hn i h16 x

/-- a sector behind a torn write -/
theorem sec_carry (d : List UInt8) (b : Nat) (data : List UInt8) (m : Nat) (hb : b * 4096 + 4096 ≤ d.length) (hd : data.length = 4096) (x : Fin 8) : Rc.sec (Dk.blk (Dk.carry d b data m) b) x.val = if Dk.bit m x.val then Rc.sec data x.val else Rc.sec (Dk.blk d b) x.val := by
  have hx := x.isLt
  apply List.ext_getElem?
  intro i
  have g : ∀ l : List UInt8, (Rc.sec l x.val)[i]? = if i < 512 then l[x.val * 512 + i]? else none := fun l => by
    unfold Rc.sec
    rw [List.getElem?_take]
    split
    · rw [List.getElem?_drop]
    · rfl
  rw [g]
  by_cases hi : i < 512
  · obtain ⟨y, hy⟩ : ∃ y, y = x.val * 512 + i := ⟨_, rfl⟩
    have hy1 : y < 4096 := by omega
    have hy2 : y / 512 = x.val := by omega
    rw [if_pos hi, ← hy]
    have h1 := Dk.blk_get (Dk.carry d b data m) b y
    rw [if_pos hy1, Dk.carry_get _ _ _ _ hb hd, Nat.add_sub_cancel_left, hy2] at h1
    rw [h1]
    by_cases hbit : Dk.bit m x.val = true
    · have hc : b * 4096 ≤ b * 4096 + y ∧ b * 4096 + y < b * 4096 + 4096 ∧ Dk.bit m x.val = true := ⟨Nat.le_add_right _ _, Nat.add_lt_add_left hy1 _, hbit⟩
      rw [if_pos hc, if_pos hbit, g, if_pos hi, ← hy]
    · have h2 := Dk.blk_get d b y
      rw [if_pos hy1] at h2
      rw [if_neg (fun h => hbit h.2.2), if_neg hbit, g, if_pos hi, ← hy, h2]
  · rw [if_neg hi]
    split
    · rw [g, if_neg hi]
    · rw [g, if_neg hi]
/-- behind a crash a sector is as it was, or as one of the writes has it -/
theorem crash_sec (D : Dk.DS) (ok : D.Ok) (keep : List Bool) (torn : Int) (m p : Nat) (hp : p < D.nb) (x : Fin 8) : ∀ k, k ≤ D.uf.length →
    Rc.sec (Dk.blk (Dk.crashTo keep torn m D.uf D.dur k) p) x.val = Rc.sec (Dk.blk D.dur p) x.val ∨ ∃ j, ∃ h : j < D.uf.length, (D.uf[j]).1 = p ∧ Rc.sec (Dk.blk (Dk.crashTo keep torn m D.uf D.dur k) p) x.val = Rc.sec (D.uf[j]).2 x.val
  | 0, _ => .inl rfl
  | k + 1, hk => by
    have ih := crash_sec D ok keep torn m p hp x k (by omega)
    have hl := Dk.crashTo_length D ok keep torn m k
    obtain ⟨h1, h2⟩ := ok.at k (by omega)
    have hroom : (D.uf[k]).1 * 4096 + 4096 ≤ (Dk.crashTo keep torn m D.uf D.dur k).length := by rw [hl]; exact ok.room h1
    rw [Dk.crashTo_succ keep torn m D.uf D.dur k (by omega)]
    have key : ∀ mm, (Rc.sec (Dk.blk (Dk.carry (Dk.crashTo keep torn m D.uf D.dur k) (D.uf[k]).1 (D.uf[k]).2 mm) p) x.val = Rc.sec (Dk.blk D.dur p) x.val) ∨ ∃ j, ∃ h : j < D.uf.length, (D.uf[j]).1 = p ∧ Rc.sec (Dk.blk (Dk.carry (Dk.crashTo keep torn m D.uf D.dur k) (D.uf[k]).1 (D.uf[k]).2 mm) p) x.val = Rc.sec (D.uf[j]).2 x.val := fun mm => by
      by_cases e : (D.uf[k]).1 = p
      · rw [← e, sec_carry _ _ _ _ hroom h2 x]
        split
        · exact .inr ⟨k, by omega, rfl, rfl⟩
        · rw [e]
          exact ih
      · rw [Dk.blk_carry_other _ _ _ _ _ hroom h2 (fun h => e h.symm)]
        exact ih
    split
    · exact key m
    · split
      · exact key 255
      · exact ih
theorem wrs_get (S f : Nat) (bs : List (List UInt8)) (k j : Nat) (h : j < (J.wrs S f bs k).length) : (J.wrs S f bs k)[j] = (2 + (f + j) % S, bs.getD j []) := by simp [J.wrs]
/-- behind a crash -/
theorem mixd_crash {D : Dk.DS} {t E : Nat} {L : List (List UInt8)} (ok : D.Ok) (hnb : D.nb = 64) (hu : D.uf = J.wrs 16 t L L.length) (hL : L.length ≤ 16) (hn : NoE D t E) (keep : List Bool) (torn : Int) (m : Nat) : Mixd (D.crash keep torn m) t E 0 L := fun i _ h16 x => by
  have e : rg (D.crash keep torn m) t i = Dk.blk (Dk.crashTo keep torn m D.uf D.dur D.uf.length) (2 + (t + i) % 16) := rfl
  rw [e]
  rcases crash_sec D ok keep torn m (2 + (t + i) % 16) (by omega) x D.uf.length (Nat.le_refl _) with h | ⟨j, hj, h1, h2⟩
  · right
    rw [h]
    exact hn i h16 x
  · have hjl : j < L.length := by rw [hu, J.wrs_length] at hj; exact hj
    have hg : D.uf[j] = (2 + (t + j) % 16, L.getD j []) := by
      have : D.uf[j]? = (J.wrs 16 t L L.length)[j]? := by rw [hu]
      rw [List.getElem?_eq_getElem hj, List.getElem?_eq_getElem (by rw [J.wrs_length]; exact hjl), wrs_get] at this
      exact Option.some.inj this
    rw [hg] at h1 h2
    have hij : i = j := by dsimp only at h1; omega
    subst hij
    left
    refine ⟨by omega, ?_⟩
    rw [h2]
    simp [hjl]
/-- a crash with nothing unflushed -/
theorem rg_calm {D : Dk.DS} (hu : D.uf = []) (keep : List Bool) (torn : Int) (m t i : Nat) : rg (D.crash keep torn m) t i = rg D t i := by
  unfold rg Dk.DS.stand Dk.DS.crash
  simp only [hu]
  rfl
theorem Mixd.congr {D D' : Dk.DS} {t E b : Nat} {L : List (List UInt8)} (h : Mixd D t E b L) (he : ∀ i, i < 16 → rg D' t i = rg D t i) : Mixd D' t E b L := fun i hb h16 x => by
  rw [he i h16]
  exact h i hb h16 x
end Go.Proofs.YtkhejjddmbegaaaGreat.S
