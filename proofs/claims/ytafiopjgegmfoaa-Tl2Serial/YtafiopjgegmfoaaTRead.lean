/-
  Read of a transaction.
-/
import Derived.Test.YtafiopjgegmfoaaTOps
namespace Go.Proofs.Ytafiopjgegmfoaa.T
open Go.RowKit Go.Proofs.Ytafiopjgegmfoaa.C
set_option maxRecDepth 100000 in
set_option maxHeartbeats 2000000 in
theorem read_at {w : World} {B g m gm : Nat} {S : M} {X : TX} {F : Nat → Prop} (hM : MM w B m gm S) (hX : IsX w B g m X F) (hm : ¬ F m) (hgm : ¬ F gm) (hN : Num S) (i : Int) (hi : (Lit.int .i64 i).wf = true) : Calls Try.prog 13 #[ptr g, .int .i64 i] w fun r w' => r = .returned (.tuple #[.int .i64 (X.read S i).1, .int .i64 (X.read S i).2.1]) ∧ ToX w B g m gm (X.read S i).2.2.1 (X.read S i).2.2.2 F w' := by
  have H0 : Hid (ToX w B g m gm S X F w) := ToX.refl hM hX
  have hX0 := hX
  obtain ⟨s, lv, P, Q, h⟩ := hX
  have c := mayGo_at h.box h.ok
  by_cases h1 : X.st ≠ 1
  · have e : X.read S i = (0, 132, S, X) := by unfold TX.read; rw [if_pos h1]
    rw [e]
    rw [if_pos h1] at c
    clear h hM e hX0
    unfold ptr at *
    go_enter Try.func13, Try.ntmps13
    go_wp2_with (go_at_call 24; refine c.mono ?_; rintro e wx ⟨rfl, hwx⟩; subst wx)
    go_ret2
    exact ⟨rfl, H0.out⟩
  rw [if_neg h1] at c
  have c4 : w.cell? ⟨g, 4, none⟩ = some (ptr s) := h.box.cell 4
  have cv := Ytafiopjgegmfoaa.value_at h.sets i hi
  unfold encI at cv
  cases hw : gt X.S.W i with
  | some x =>
    have e : X.read S i = (x, 0, S, X) := by unfold TX.read; rw [if_neg h1, hw]
    rw [e]
    rw [hw] at cv
    simp only [Option.getD_some, Option.isSome_some] at cv
    clear h hM e hw hX0
    unfold ptr at *
    go_enter Try.func13, Try.ntmps13
    go_wp2_with (first | (go_at_call 24; refine c.mono ?_; rintro e wx ⟨rfl, hwx⟩; subst wx) | (go_at_call 25; refine cv.mono ?_; rintro e wx ⟨rfl, hwx⟩; subst wx))
    go_ret2
    exact ⟨rfl, H0.out⟩
  | none =>
  rw [hw] at cv
  simp only [Option.getD_none, Option.isSome_none] at cv
  have c1 : w.cell? ⟨g, 1, none⟩ = some (ptr m) := h.box.cell 1
  have cl := C.load_at hM.is i
  cases hc : S.cell? i with
  | none =>
    have e : X.read S i = (0, 2, S, X) := by unfold TX.read; rw [if_neg h1, hw]; simp only [hc]
    have el : M.load S i = (.int .i64 0, 0, 0, 2) := by simp [M.load, hc]
    rw [el] at cl
    rw [e]
    clear h hM e el hc hw hX0
    unfold ptr at *
    go_enter Try.func13, Try.ntmps13
    go_wp2_with (first | (go_at_call 24; refine c.mono ?_; rintro e wx ⟨rfl, hwx⟩; subst wx) | (go_at_call 25; refine cv.mono ?_; rintro e wx ⟨rfl, hwx⟩; subst wx) | (go_at_call 19; refine cl.mono ?_; rintro e wx ⟨rfl, q, hwx⟩; subst wx))
    go_ret2
    exact ⟨rfl, H0.out.drew q⟩
  | some x =>
  obtain ⟨y, hy⟩ := hN i x hc
  have el : M.load S i = (.int .i64 y, x.ver, x.own, 0) := by simp [M.load, hc, hy]
  rw [el] at cl
  have hT : ∀ q, IsT (w.drewN q) B g m X F s lv P Q := fun q => h.stay (Nat.le_refl _) (fun _ _ => rfl)
  have c3 : ∀ q, (w.drewN q).cell? ⟨g, 3, none⟩ = some (.int .i64 X.beg) := fun q => (hT q).box.cell 3
  have c4' : ∀ q, (w.drewN q).cell? ⟨g, 4, none⟩ = some (ptr s) := fun q => (hT q).box.cell 4
  have ca : ∀ q, Calls Try.prog 26 #[ptr g, .int .i64 i, .int .i64 x.ver] (w.drewN q) fun r w' => r = .returned (.bool (!X.oth i x.ver)) ∧ w' = w.drewN q := fun q => agrees_at (hT q) i x.ver hi
  by_cases hb : X.bad i x
  · have e : X.read S i = (0, 131, S.rel X.own, X.fail) := by
      unfold TX.read; rw [if_neg h1, hw]; simp only [hc, if_pos hb]
    rw [e]
    have cf : ∀ q, Calls Try.prog 27 #[ptr g] (w.drewN q) fun r w' => r = .returned (.tuple #[]) ∧ ToX w B g m gm (S.rel X.own) X.fail F w' := fun q => (fail_at (hM.stay rfl rfl : MM (w.drewN q) B m gm S) (hX0.stay (Nat.le_refl _) (fun _ _ => rfl)) hm hgm).mono (fun r w' ⟨h1, h2⟩ => ⟨h1, ToX.base (⟨rfl, rfl, rfl, Nat.le_refl _, fun _ _ => rfl⟩ : Below w.heap.size w (w.drewN q)) hM.hB h2⟩)
    have hb' : x.own ≠ 0 ∨ (x.own = 0 ∧ X.beg < x.ver) ∨ (x.own = 0 ∧ ¬ X.beg < x.ver ∧ X.oth i x.ver = true) := by
      unfold TX.bad at hb
      by_cases a1 : x.own = 0
      · by_cases a2 : X.beg < x.ver
        · exact .inr (.inl ⟨a1, a2⟩)
        · exact .inr (.inr ⟨a1, a2, by rcases hb with h | h | h; exact absurd a1 h; exact absurd h a2; exact h⟩)
      · exact .inl a1
    generalize S.rel X.own = S' at *
    generalize X.fail = X' at *
    generalize X.beg = bg at *
    generalize X.oth i x.ver = ot at *
    obtain ⟨xv, xk, xo⟩ := x
    dsimp only at *
    clear h hM e el hc hw hX0 hT hb H0 hN hy
    unfold ptr at *
    rcases hb' with a1 | ⟨rfl, a2⟩ | ⟨rfl, a2, rfl⟩
    · have a1' : (xo == 0) = false := by simpa using a1
      go_enter Try.func13, Try.ntmps13
      go_wp2_with (first | (go_at_call 24; refine c.mono ?_; rintro e wx ⟨rfl, hwx⟩; subst wx) | (go_at_call 25; refine cv.mono ?_; rintro e wx ⟨rfl, hwx⟩; subst wx) | (go_at_call 19; refine cl.mono ?_; rintro e wx ⟨rfl, q, hwx⟩; subst wx; have d3 := c3 q; have d4 := c4' q) | (go_at_call 26; refine (ca q).mono ?_; rintro e wx ⟨rfl, hwx⟩; subst wx) | (go_at_call 27; refine (cf q).mono ?_; rintro e w2 ⟨rfl, ht⟩))
      go_ret2
      exact ⟨rfl, ht⟩
    · go_enter Try.func13, Try.ntmps13
      go_wp2_with (first | (go_at_call 24; refine c.mono ?_; rintro e wx ⟨rfl, hwx⟩; subst wx) | (go_at_call 25; refine cv.mono ?_; rintro e wx ⟨rfl, hwx⟩; subst wx) | (go_at_call 19; refine cl.mono ?_; rintro e wx ⟨rfl, q, hwx⟩; subst wx; have d3 := c3 q; have d4 := c4' q) | (go_at_call 26; refine (ca q).mono ?_; rintro e wx ⟨rfl, hwx⟩; subst wx) | (go_at_call 27; refine (cf q).mono ?_; rintro e w2 ⟨rfl, ht⟩))
      go_ret2
      exact ⟨rfl, ht⟩
    · have a2' : xk ≤ bg := by omega
      go_enter Try.func13, Try.ntmps13
      go_wp2_with (first | (go_at_call 24; refine c.mono ?_; rintro e wx ⟨rfl, hwx⟩; subst wx) | (go_at_call 25; refine cv.mono ?_; rintro e wx ⟨rfl, hwx⟩; subst wx) | (go_at_call 19; refine cl.mono ?_; rintro e wx ⟨rfl, q, hwx⟩; subst wx; have d3 := c3 q; have d4 := c4' q) | (go_at_call 26; refine (ca q).mono ?_; rintro e wx ⟨rfl, hwx⟩; subst wx) | (go_at_call 27; refine (cf q).mono ?_; rintro e w2 ⟨rfl, ht⟩))
      go_ret2
      exact ⟨rfl, ht⟩
  · have hb' : x.own = 0 ∧ ¬ X.beg < x.ver ∧ X.oth i x.ver = false := by
      unfold TX.bad at hb
      refine ⟨Classical.byContradiction fun e => hb (.inl e), fun e => hb (.inr (.inl e)), ?_⟩
      cases ho : X.oth i x.ver with
      | false => rfl
      | true => exact absurd (.inr (.inr ho)) hb
    have e : X.read S i = if (X.S.read i x.ver).1 ≠ 0 then (0, (X.S.read i x.ver).1, S, { X with S := (X.S.read i x.ver).2 }) else (y, 0, S, { X with S := (X.S.read i x.ver).2 }) := by
      unfold TX.read; rw [if_neg h1, hw]; simp only [hc, if_neg hb, hy]; rfl
    have cr : ∀ q, Calls Try.prog 28 #[ptr s, .int .i64 i, .int .i64 x.ver] (w.drewN q) fun r w' => r = .returned (.int .i64 (X.S.read i x.ver).1) ∧ To encI 85 30 (w.drewN q) B s (X.S.read i x.ver).2 P w' := fun q => Ytafiopjgegmfoaa.read_at (hT q).sets i x.ver
    have K : Hid (∀ q w', To encI 85 30 (w.drewN q) B s (X.S.read i x.ver).2 P w' → ToX w B g m gm S { X with S := (X.S.read i x.ver).2 } F w') := fun q w' ht => ToX.sets hM h hm hgm (drewN ht)
    rw [e]
    generalize X.S.read i x.ver = R at *
    obtain ⟨R1, R2⟩ := R
    generalize { X with S := (R1, R2).2 } = X' at *
    generalize X.beg = bg at *
    generalize X.oth i x.ver = ot at *
    obtain ⟨xv, xk, xo⟩ := x
    dsimp only at *
    obtain ⟨rfl, a2, rfl⟩ := hb'
    have a2' : xk ≤ bg := by omega
    clear h hM e el hc hw hX0 hT hb H0 hN hy a2
    unfold ptr at *
    by_cases hR : R1 ≠ 0
    · rw [if_pos hR]
      have hR' : (R1 == 0) = false := by simpa using hR
      go_enter Try.func13, Try.ntmps13
      go_wp2_with (first | (go_at_call 24; refine c.mono ?_; rintro e wx ⟨rfl, hwx⟩; subst wx) | (go_at_call 25; refine cv.mono ?_; rintro e wx ⟨rfl, hwx⟩; subst wx) | (go_at_call 19; refine cl.mono ?_; rintro e wx ⟨rfl, q, hwx⟩; subst wx; have d3 := c3 q; have d4 := c4' q) | (go_at_call 26; refine (ca q).mono ?_; rintro e wx ⟨rfl, hwx⟩; subst wx) | (go_at_call 28; refine (cr q).mono ?_; rintro e w2 ⟨rfl, ht⟩))
      go_ret2
      exact ⟨rfl, K.out q _ ht⟩
    · rw [if_neg hR]
      have hR' : R1 = 0 := by simpa using hR
      subst hR'
      go_enter Try.func13, Try.ntmps13
      go_wp2_with (first | (go_at_call 24; refine c.mono ?_; rintro e wx ⟨rfl, hwx⟩; subst wx) | (go_at_call 25; refine cv.mono ?_; rintro e wx ⟨rfl, hwx⟩; subst wx) | (go_at_call 19; refine cl.mono ?_; rintro e wx ⟨rfl, q, hwx⟩; subst wx; have d3 := c3 q; have d4 := c4' q) | (go_at_call 26; refine (ca q).mono ?_; rintro e wx ⟨rfl, hwx⟩; subst wx) | (go_at_call 28; refine (cr q).mono ?_; rintro e w2 ⟨rfl, ht⟩))
      go_ret2
      exact ⟨rfl, K.out q _ ht⟩
end Go.Proofs.Ytafiopjgegmfoaa.T
