/-
  putHeading: what it does to memory.
-/
import Derived.Test.YtghcmlkgpedkkaaDraw
import Derived.Test.YtghcmlkgpedkkaaBody
import Derived.Test.YtghcmlkgpedkkaaStamped
namespace Go.Proofs.Ytghcmlkgpedkkaa
open Go.RowKit Go.Shelf
attribute [local go_sem] Oper.semAt_some

theorem make_run (n : Nat) (hn : n ≤ 281474976710656) (u : World) : (Instr.makeSlice 31 (.int .i64 (n : Int)) (.int .i64 (n : Int))).run Try.prog u =
    .ok (.slice (some ⟨u.heap.size, 0, none⟩) n n) (u.alloc (.cells (bcs (nought n)).toArray 5)) := by
  obtain ⟨i0, hi, hz0, hz1, hz2⟩ := info_parts info5
  have h := run_make (P := Try.prog) u 31 5 i0 (.int .u8 0) Try.underlying31 hi hz0 .i64 .i64 (n : Int) (n : Int) (by omega) (Int.le_refl _) (by rw [hz2]; omega) (by omega)
  have e : ((n : Int)).toNat = n := by omega
  rw [e, hz1, Nat.mul_one] at h
  have e2 : madeCells #[.int .u8 0] n = (bcs (nought n)).toArray := made_zero n
  rw [← e2]
  exact h


/-- copy, where what is copied may be longer than where it goes -/
theorem copy_row2 (g cap off dLen dCap : Nat) (a : Option Addr) (sLen sCap : Nat) (xs ys : List UInt8) (u : World) (hg : RowB u g cap ys) (hr : Rd u a xs) (hl : xs.length = Nat.min sLen dLen) (hfit : off + xs.length ≤ ys.length) (h0 : 0 < xs.length) :
    ∃ W, (∀ ty, (Builtin.copy_ #[31, 31] ty #[.slice (some ⟨g, off, none⟩) dLen dCap, .slice a sLen sCap]).run Try.prog u = .ok (goInt xs.length) W) ∧ RowB W g cap (over ys off xs) ∧ u.grownBy W (some g) := by
  obtain ⟨b, o, rfl, hc⟩ := hr h0
  obtain ⟨W, h1, h2, h3⟩ := copy_row g cap off xs.length dCap (some ⟨b, o, none⟩) sCap xs ys u hg hr (Nat.le_refl _) hfit h0
  obtain ⟨cur, hb, hlc, hm, hs, ht⟩ := hg
  have hsrc : ∀ j v, (bcs xs)[j]? = some v → u.cell? ((⟨b, o, none⟩ : Addr).add j) = some v := fun j v hj => by
    have hj' : j < xs.length := by have := (List.getElem?_eq_some_iff.1 hj).1; simpa [bcs_length] using this
    rw [bcs_getElem? xs j hj'] at hj
    rw [Addr.add_lit, hc j hj']
    exact hj
  have k1 := fun ty => run_copy_row (P := Try.prog) u 31 31 ty 5 g off dLen dCap ⟨b, o, none⟩ sLen sCap cur 5 (bcs xs) Try.underlying31 size5 hb (by rw [bcs_length]; exact hl) hsrc (by rw [bcs_length]; omega) (bcs_oneCell xs)
  have k2 := run_copy_row (P := Try.prog) u 31 31 0 5 g off xs.length dCap ⟨b, o, none⟩ xs.length sCap cur 5 (bcs xs) Try.underlying31 size5 hb (by rw [bcs_length]; exact (Nat.min_self _).symm) hsrc (by rw [bcs_length]; omega) (bcs_oneCell xs)
  refine ⟨W, fun ty => ?_, h2, h3⟩
  rw [k1 ty]
  rw [h1 0] at k2
  rw [bcs_length] at k2 ⊢
  exact k2.symm

/-- one sector of a head -/
def putStep (M BB : List UInt8) (st : List UInt8 × Nat) (x : Fin 8) : List UInt8 × Nat := (over (over st.1 (x.val * 512) M) (x.val * 512 + 8) ((BB.drop (st.2 * 504)).take 504), st.2 + 1)
def putTo (Z M BB : List UInt8) (pre : List (Fin 8)) : List UInt8 × Nat := pre.foldl (putStep M BB) (Z, 0)
theorem putTo_snoc (Z M BB : List UInt8) (pre : List (Fin 8)) (x : Fin 8) : putTo Z M BB (pre ++ [x]) = putStep M BB (putTo Z M BB pre) x := by simp [putTo]
theorem putTo_two (Z M BB : List UInt8) (pre : List (Fin 8)) : (putTo Z M BB pre).2 = pre.length := by
  unfold putTo
  have : ∀ (pre : List (Fin 8)) (st : List UInt8 × Nat), (pre.foldl (putStep M BB) st).2 = st.2 + pre.length := by
    intro pre
    induction pre with
    | nil => intro st; rfl
    | cons x pre ih =>
      intro st
      rw [List.foldl_cons, ih]
      simp [putStep]
      omega
  rw [this]
  simp
theorem putTo_length (Z M BB : List UInt8) (hl : Z.length = 4096) (hm : M.length = 8) (hb : BB.length = 4032) (pre : List (Fin 8)) (_ : pre.length ≤ 8) : (putTo Z M BB pre).1.length = 4096 := by
  unfold putTo
  have : ∀ (pre : List (Fin 8)) (st : List UInt8 × Nat), st.1.length = 4096 → (pre.foldl (putStep M BB) st).1.length = 4096 := by
    intro pre
    induction pre with
    | nil => intro st h; exact h
    | cons x pre ih =>
      intro st h
      have hx := x.isLt
      rw [List.foldl_cons]
      refine ih _ ?_
      unfold putStep
      have h1 : (over st.1 (x.val * 512) M).length = 4096 := by rw [over_length _ _ _ (by rw [h, hm]; omega)]; exact h
      rw [over_length _ _ _ (by rw [h1]; simp [hb]; omega)]
      exact h1
  exact this pre _ hl

/-- what stands in memory while the sectors come -/
def PutI (h g4 gr cv b8 b9 k1 : Nat) (M BB d : List UInt8) (k : Nat) (W : World) : Prop :=
  RowB W h 4096 d ∧ Box W b8 #[.slice (some ⟨g4, 0, none⟩) 8 8] 31 ∧ (∃ o', Box W b9 #[.slice (some ⟨gr, o', none⟩) (4032 - k * 504) (cv - k * 504)] 31 ∧ (k < 8 → o' = k * 504)) ∧ Own W g4 M ∧ RowB W gr cv BB ∧ ∃ cs, Box W k1 cs 31
theorem PutI.kept {h g4 gr cv b8 b9 k1 : Nat} {M BB d : List UInt8} {k : Nat} {A B : World} {row : Option Nat} (hI : PutI h g4 gr cv b8 b9 k1 M BB d k A) (hg : A.grownBy B row) (hr : ∀ r, row = some r → ∃ o : Obj, A.heap[r]? = some o ∧ o.isCells = false) : PutI h g4 gr cv b8 b9 k1 M BB d k B := by
  obtain ⟨a1, a2, ⟨o', a3, a4⟩, a5, a6, cs, a7⟩ := hI
  exact ⟨a1.kept hg hr, a2.kept hg hr, ⟨o', a3.kept hg hr, a4⟩, Box.kept a5 hg hr, a6.kept hg hr, cs, a7.kept hg hr⟩

theorem puth_round (w W : World) (h g4 gr cv b8 b9 k1 k : Nat) (M BB d : List UInt8) (x : Fin 8) (z8 : w.heap.size + 2 ≤ b8) (z9 : w.heap.size + 2 ≤ b9) (zk : b9 ≠ k1) (hne : b9 ≠ b8) (hk : k < 8) (hd : d.length = 4096) (hm : M.length = 8) (hb : BB.length = 4032) (hc1 : 4032 ≤ cv) (hc2 : cv ≤ 9223372036854775807)
    (hh : h = w.heap.size + 1) (zg : g4 ≠ h) (zr : gr ≠ h)
    (hI : PutI h g4 gr cv b8 b9 k1 M BB d k W) (hB : Below w.heap.size w W) :
    ∃ W5 W6 L C, (∀ ty, (Builtin.copy_ #[31, 31] ty #[.slice (some ⟨h, x.val * 512, none⟩) 512 512, .slice (some ⟨g4, 0, none⟩) 8 8]).run Try.prog W = .ok (goInt 8) W5) ∧
      (∀ ty, (Builtin.copy_ #[31, 31] ty #[.slice (some ⟨h, x.val * 512 + 8, none⟩) 504 504, .slice (some ⟨gr, k * 504, none⟩) L C]).run Try.prog W5.drew = .ok (goInt 504) W6) ∧
      W.cell? ⟨b8, 0, none⟩ = some (.slice (some ⟨g4, 0, none⟩) 8 8) ∧ W5.cell? ⟨b9, 0, none⟩ = some (.slice (some ⟨gr, k * 504, none⟩) L C) ∧ W6.cell? ⟨b9, 0, none⟩ = some (.slice (some ⟨gr, k * 504, none⟩) L C) ∧ W6.frozen? ⟨b9, 0, none⟩ = false ∧
      (504 ≤ L ∧ 504 ≤ C ∧ L ≤ C ∧ C ≤ 9223372036854775807 ∧ (k + 1 < 8 → C ≠ 504)) ∧
      ∀ v', (∃ o', v' = .slice (some ⟨gr, o', none⟩) (L - 504) (C - 504) ∧ (k + 1 < 8 → o' = (k + 1) * 504)) →
        KeepsOthers W (W6.setCell ⟨b9, 0, none⟩ v') ∧ CellK k1 W (W6.setCell ⟨b9, 0, none⟩ v') ∧ PutI h g4 gr cv b8 b9 k1 M BB (over (over d (x.val * 512) M) (x.val * 512 + 8) ((BB.drop (k * 504)).take 504)) (k + 1) (W6.setCell ⟨b9, 0, none⟩ v') ∧ Below w.heap.size w (W6.setCell ⟨b9, 0, none⟩ v') := by
  obtain ⟨a1, a2, ⟨o', a3, a4⟩, a5, a6, cs, a7⟩ := hI
  obtain rfl := a4 hk
  have hx8 := x.isLt
  have n8 : b8 ≠ h := by omega
  have n9 : b9 ≠ h := by omega
  have nk : k1 ≠ h := by
    obtain ⟨cur, q, _⟩ := a1
    exact fun e => q.ne a7 (by decide) e.symm
  obtain ⟨W5, r5, row5, g5⟩ := copy_row h 4096 (x.val * 512) 512 512 (some ⟨g4, 0, none⟩) 8 M d W a1 a5.rd (by omega) (by omega) (by omega)
  rw [hm] at r5
  have b5 : Box W5 b9 _ 31 := a3.grown g5 (fun e => n9 (by cases e; rfl))
  have t5 : ((BB.drop (k * 504)).take 504).length = 504 := by simp; omega
  have rd5 : Rd W5.drew (some ⟨gr, k * 504, none⟩) ((BB.drop (k * 504)).take 504) := by
    have := ((a6.grown g5 (fun e => zr (by cases e; rfl))).rd).part (k * 504) 504
    rw [Nat.zero_add] at this
    exact this
  have hl5 : (over d (x.val * 512) M).length = 4096 := by rw [over_length _ _ _ (by omega)]; exact hd
  obtain ⟨W6, r6, row6, g6⟩ := copy_row2 h 4096 (x.val * 512 + 8) 504 504 (some ⟨gr, k * 504, none⟩) (4032 - k * 504) (cv - k * 504) _ _ W5.drew (show RowB W5.drew h 4096 _ from row5) rd5 (by rw [t5]; exact (Nat.min_eq_right (by omega)).symm) (by omega) (by omega)
  rw [t5] at r6
  have b6 : Box W6 b9 _ 31 := Box.grown (w := W5.drew) b5 g6 (fun e => n9 (by cases e; rfl))
  have B5 := hB.grown g5 hB.size (fun j e => by cases e; omega)
  have B6 : Below w.heap.size w W6 := B5.drew.grown g6 B5.size (fun j e => by cases e; omega)
  have k5 : KeepsOthers W W5 := by obtain ⟨cur, q, _⟩ := a1; exact keeps_grown q g5
  have k6 : KeepsOthers W5.drew W6 := by obtain ⟨cur, q, _⟩ := row5; exact keeps_grown (A := W5.drew) q g6
  refine ⟨W5, W6, 4032 - k * 504, cv - k * 504, r5, r6, a2.cell 0, b5.cell 0, b6.cell 0, b6.frozen 0, ⟨by omega, by omega, by omega, by omega, by omega⟩, ?_⟩
  rintro v' ⟨o', rfl, ho⟩
  have st : ∀ {g : Nat} {cs : Array Value} {t : TypeId}, Box W g cs t → g ≠ h → g ≠ b9 → Box (W6.setCell ⟨b9, 0, none⟩ (.slice (some ⟨gr, o', none⟩) (4032 - k * 504 - 504) (cv - k * 504 - 504))) g cs t := fun hb h1 h2 =>
    (heap_setCell_other W6 ⟨b9, 0, none⟩ _ _ h2).trans (Box.grown (w := W5.drew) (show Box W5 _ _ _ from hb.grown g5 (fun e => h1 (Option.some.inj e).symm)) g6 (fun e => h1 (Option.some.inj e).symm))
  refine ⟨((k5.trans (KeepsOthers.drew W5)).trans k6).trans (KeepsOthers.setCell _ _ _), ?_, ⟨rowB_store row6 b6 (by decide) _, st a2 n8 (fun e => hne e.symm), ⟨o', ?_, ho⟩, st a5 zg (fun e => ?_), ?_, cs, st a7 nk (fun e => zk e.symm)⟩, B6.setCell (p := ⟨b9, 0, none⟩) (by show w.heap.size ≤ b9; omega) _⟩
  · exact ((st a7 nk (fun e => zk e.symm)).cell 0).trans (a7.cell 0).symm
  · have := b6.store 0 (.slice (some ⟨gr, o', none⟩) (4032 - k * 504 - 504) (cv - k * 504 - 504))
    have e1 : 4032 - (k + 1) * 504 = 4032 - k * 504 - 504 := by omega
    have e2 : cv - (k + 1) * 504 = cv - k * 504 - 504 := by omega
    rw [e1, e2]
    simpa using this
  · exact Box.ne (t := 5) (t' := 31) a5 a3 (by decide) e
  · obtain ⟨cur, q, rest⟩ := a6
    exact ⟨cur, st q zr (q.ne a3 (by decide)), rest⟩


theorem owns_below {w w' : World} {base e size n : Nat} {v : Value} {xs : List Value} (h : w.ownsRow base e size v n xs) (hb : Below w.heap.size w w') : w'.ownsRow base e size v n xs := by
  refine ⟨h.1, ?_⟩
  rcases h.2 with h | ⟨g, cap, cur, e1, e2, e3, e4⟩
  · exact .inl h
  · exact .inr ⟨g, cap, cur, e1, e2, (hb.block g (Array.getElem?_eq_some_iff.1 e3).1).trans e3, e4⟩
theorem owns_base {w : World} {base base' e size n : Nat} {v : Value} {xs : List Value} (h : w.ownsRow base e size v n xs) (hb : base' ≤ base) : w.ownsRow base' e size v n xs := by
  refine ⟨h.1, ?_⟩
  rcases h.2 with h | ⟨g, cap, cur, e1, e2, e3⟩
  · exact .inl h
  · exact .inr ⟨g, cap, cur, e1, Nat.le_trans hb e2, e3⟩
theorem Own.other {w : World} {g b : Nat} {ys : List UInt8} {j : Nat} {u : Value} (h : Own w g ys) (hne : g ≠ b) : Own (w.setCell ⟨b, j, none⟩ u) g ys := (heap_setCell_other w ⟨b, j, none⟩ g u hne).trans h

/-- the stamp and the rest, each in a box -/
def PutHI (k0 g4 b8 b9 : Nat) (av : Option Addr) (cv : Nat) (M BB : List UInt8) (W : World) : Prop :=
  (k0 ≤ b8 ∧ k0 ≤ b9 ∧ b9 ≠ b8) ∧ Box W b8 #[.slice (some ⟨g4, 0, none⟩) 8 8] 31 ∧ Box W b9 #[.slice av 4032 cv] 31 ∧ (k0 ≤ g4 ∧ Own W g4 M) ∧ W.ownsRow k0 5 1 (.slice av 4032 cv) 4032 (bcs BB)

theorem putHI_end {V : World} {k0 g4 b8 b9 : Nat} {av : Option Addr} {cv : Nat} {M BB : List UInt8} (hne : b9 ≠ b8) (z8 : k0 ≤ b8) (z9 : k0 ≤ b9) (z4 : k0 ≤ g4) (m4 : Own V g4 M) (r7 : V.ownsRow k0 5 1 (.slice av 4032 cv) 4032 (bcs BB))
    (p8 : Box V b8 #[.slice none 0 0] 31) (p9 : Box V b9 #[.slice none 0 0] 31) : PutHI k0 g4 b8 b9 av cv M BB ((V.setCell ⟨b8, 0, none⟩ (.slice (some ⟨g4, 0, none⟩) 8 8)).setCell ⟨b9, 0, none⟩ (.slice av 4032 cv)) := by
  have q8 : Box (V.setCell ⟨b8, 0, none⟩ (.slice (some ⟨g4, 0, none⟩) 8 8)) b8 #[.slice (some ⟨g4, 0, none⟩) 8 8] 31 := by have := p8.store 0 (.slice (some ⟨g4, 0, none⟩) 8 8); simpa using this
  have q9 : Box (V.setCell ⟨b8, 0, none⟩ (.slice (some ⟨g4, 0, none⟩) 8 8)) b9 #[.slice none 0 0] 31 := (heap_setCell_other V ⟨b8, 0, none⟩ b9 _ hne).trans p9
  have n8 : g4 ≠ b8 := Box.ne (t := 5) (t' := 31) m4 p8 (by decide)
  have n9 : g4 ≠ b9 := Box.ne (t := 5) (t' := 31) m4 p9 (by decide)
  have nr : ∀ g, (Value.slice av 4032 cv).ownBlock = some g → g ≠ b8 ∧ g ≠ b9 := fun g hg => by
    obtain ⟨_, cur, q⟩ := owns_block r7 g hg
    exact ⟨q.ne p8 (by decide), q.ne p9 (by decide)⟩
  refine ⟨⟨z8, z9, hne⟩, (heap_setCell_other _ ⟨b9, 0, none⟩ b8 _ (fun h => hne h.symm)).trans q8, ?_, ⟨z4, Own.other (Own.other m4 n8) n9⟩, ?_⟩
  · have := q9.store 0 (.slice av 4032 cv); simpa using this
  · exact owns_grown (owns_grown r7 (grown_store V b8 0 _) (fun g hg e => (nr g hg).1 (by cases e; rfl))) (grown_store _ b9 0 _) (fun g hg e => (nr g hg).2 (by cases e; rfl))

end Go.Proofs.Ytghcmlkgpedkkaa
