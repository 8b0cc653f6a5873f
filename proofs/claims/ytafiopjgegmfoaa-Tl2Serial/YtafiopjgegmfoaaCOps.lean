/-
  Advance, Load, Fill, Lock, Publish of a memory.
-/
import Derived.Test.YtafiopjgegmfoaaCNew
namespace Go.Proofs.Ytafiopjgegmfoaa.C
open Go.RowKit

theorem heap_cell_other2 {w w' : World} {m : Nat} {a b c c' v : Value} {t : TypeId} (h' : Box w' m (#[a, b, c].setIfInBounds 2 c') t) (h : Box w m #[a, b, c] t) (e : w.cell? ⟨m, 1, none⟩ = some v) : w'.cell? ⟨m, 1, none⟩ = some v := by
  rw [Box.cell h'] 
  rw [Box.cell h] at e
  simpa using e
theorem adv_at {w : World} {B m : Nat} {S : M} (h : IsM 65 81 w B m S) : Calls Try.prog 56 #[ptr m] w fun r w' => r = .returned (.tuple #[.int .i64 S.adv.2.1, .int .i64 S.adv.2.2]) ∧ To 65 81 w B m S.adv.1 w' := by
  obtain ⟨g, hg, hb, hr⟩ := h.row
  have c := isMade_at hb
  have c2 : w.cell? ⟨m, 2, none⟩ = some (.int .i64 S.k) := hb.cell 2
  by_cases hk : 1099511627776 ≤ S.k
  · have e : S.adv = (S, 0, 133) := by simp [M.adv, hk]
    rw [e]
    have H : Hid (To 65 81 w B m S w) := To.same h
    obtain ⟨k, hk'⟩ : ∃ k, k = S.k := ⟨_, rfl⟩
    rw [← hk'] at hk c2
    clear h hb hr hk' e
    unfold ptr at *
    go_enter Try.func56, Try.ntmps56
    go_wp2_with (go_at_call 23; refine c.mono ?_; rintro e w' ⟨rfl, rfl⟩)
    go_ret2
    exact ⟨rfl, H.out⟩
  · have e : S.adv = (⟨S.C, S.k + 1⟩, S.k + 1, 0) := by simp [M.adv, hk]
    rw [e]
    have f2 := hb.frozen 2
    have b1 := hb.store 2 (.int .i64 (S.k + 1))
    have g1 := grown_store w m 2 (.int .i64 (S.k + 1))
    have k1 : Kt (fun t => t ≠ 65) w (w.setCell ⟨m, 2, none⟩ (.int .i64 (S.k + 1))) := (Kt.refl _ _).setCell hb (by simp) 2 _
    have H : Hid (To 65 81 w B m ⟨S.C, S.k + 1⟩ (w.setCell ⟨m, 2, none⟩ (.int .i64 (S.k + 1)))) := ⟨⟨h.hm, ⟨h.rt.n1, h.rt.n2, by have := h.rt.k0; simp; omega, by simp; omega⟩, g, hg, by simpa using b1, k1 _ _ _ hr (by decide)⟩, ⟨g1.os, g1.tape, g1.output, g1.size, fun i hi => g1.block i (Nat.lt_of_lt_of_le hi h.hB) (by have := h.hm; simp; omega)⟩, k1.mono (fun t ht => ht.1), fun g' n c e => ⟨(heap_cell_other2 b1 hb e), fun k hk hkm _ => g1.block k hk (by simpa using hkm)⟩⟩
    have hk0 := h.rt.k0
    have ck : (w.setCell ⟨m, 2, none⟩ (.int .i64 (S.k + 1))).cell? ⟨m, 2, none⟩ = some (.int .i64 (S.k + 1)) := by rw [Box.cell b1]; simp
    generalize S.k = k at *
    clear h hb hr b1 g1 k1 e
    have hk1 : k < 1099511627776 := by omega
    clear hk
    unfold ptr at *
    go_enter Try.func56, Try.ntmps56
    go_wp2_with (go_at_call 23; refine c.mono ?_; rintro e w' ⟨rfl, rfl⟩)
    go_ret2
    exact ⟨rfl, H.out⟩
/-- what Load answers -/
def M.load (S : M) (i : Int) : Value × Int × Int × Int := match S.cell? i with
  | none => (.int .i64 0, 0, 0, 2)
  | some c => (c.v, c.ver, c.own, 0)
theorem load_at {w : World} {B m : Nat} {S : M} (h : IsM 65 81 w B m S) (i : Int) : Calls Try.prog 19 #[ptr m, .int .i64 i] w fun r w' => r = .returned (.tuple #[(M.load S i).1, .int .i64 (M.load S i).2.1, .int .i64 (M.load S i).2.2.1, .int .i64 (M.load S i).2.2.2]) ∧ ∃ n, w' = w.drewN n := by
  obtain ⟨g, hg, hb, hr⟩ := h.row
  cases hc : S.cell? i with
  | none =>
    have c := find_out hb i (M.cell_out hc)
    have e : M.load S i = (.int .i64 0, 0, 0, 2) := by simp [M.load, hc]
    rw [e]
    clear h hb hr hc e
    unfold ptr at *
    go_enter Try.func19, Try.ntmps19
    go_wp2_with (go_at_call 34; refine c.mono ?_; rintro e w' ⟨rfl, rfl⟩)
    exact bodyPost_ret (v := .tuple #[.int .i64 0, .int .i64 0, .int .i64 0, .int .i64 2]) (by simp [results, Try.results19, go_sem]) rfl ⟨rfl, 0, rfl⟩
  | some x =>
    obtain ⟨j, rfl, hj, hl⟩ := M.cell_in hc
    have c := find_in hb j hl h.rt.n2
    obtain ⟨d0, d1, d2⟩ := hr.get hj
    have e : M.load S (j : Int) = (x.v, x.ver, x.own, 0) := by simp [M.load, hc]
    rw [e]
    obtain ⟨xv, xk, xo⟩ := x
    clear h hb hr hc e
    unfold ptr at *
    go_enter Try.func19, Try.ntmps19
    go_wp2_with (go_at_call 34; refine c.mono ?_; rintro e w' ⟨rfl, rfl⟩)
    go_quiet (fail)
    go_wp2
    exact bodyPost_ret (v := .tuple #[xv, .int .i64 xk, .int .i64 xo, .int .i64 0]) (by simp [results, Try.results19, go_sem]) rfl ⟨rfl, _, rfl⟩

theorem fill_at {w : World} {B m : Nat} {S : M} (h : IsM 65 81 w B m S) (i : Int) (x : Int) (hv : ∀ c, S.cell? i = some c → ∃ y : Int, c.v = .int .i64 y) : Calls Try.prog 20 #[ptr m, .int .i64 i, (.int .i64 x)] w fun r w' => r = .returned (.int .i64 (S.fill i (.int .i64 x)).2) ∧ To 65 81 w B m (S.fill i (.int .i64 x)).1 w' := by
  obtain ⟨g, hg, hb, hr⟩ := h.row
  cases hc : S.cell? i with
  | none =>
    have c := find_out hb i (M.cell_out hc)
    have e : S.fill i (.int .i64 x) = (S, 2) := by simp [M.fill, hc]
    rw [e]
    have H : Hid (To 65 81 w B m S w) := To.same h
    clear h hb hr hc e hv
    unfold ptr at *
    go_enter Try.func20, Try.ntmps20
    go_wp2_with (go_at_call 34; refine c.mono ?_; rintro e w' ⟨rfl, rfl⟩)
    go_ret
    exact ⟨rfl, H.out⟩
  | some q =>
    obtain ⟨y, hy⟩ := hv q hc
    clear hv
    obtain ⟨j, rfl, hj, hl⟩ := M.cell_in hc
    have c := find_in hb j hl h.rt.n2
    obtain ⟨d0, d1, d2⟩ := hr.get hj
    by_cases ho : q.own = 0
    · by_cases hk : 0 < q.ver
      · have e : S.fill (j : Int) (.int .i64 x) = (S, 131) := by simp [M.fill, hc, ho, hk]
        rw [e]
        have H : Hid (To 65 81 w B m S w) := To.same h
        obtain ⟨xv, xk, xo⟩ := q
        simp only at ho hk d0 d1 d2
        subst ho
        clear h hb hr hc e hy d0
        unfold ptr at *
        go_enter Try.func20, Try.ntmps20
        go_wp2_with (go_at_call 34; refine c.mono ?_; rintro e w' ⟨rfl, rfl⟩)
        go_ret
        exact ⟨rfl, H.out⟩
      · have e : S.fill (j : Int) (.int .i64 x) = (S.put (j : Int) { q with v := (.int .i64 x) }, 0) := by simp [M.fill, hc, ho, hk]
        rw [e]
        have H : Hid (To 65 81 w B m (S.put (j : Int) { q with v := (.int .i64 x) }) (w.setCell ⟨g, j * 3, none⟩ (.int .i64 x))) := To.ofRow h hg hb hr (by decide) (by simp) (hr.set0 hj _) (grown_store _ _ _ _)
        have f0 := Box.frozen hr (j * 3)
        obtain ⟨xv, xk, xo⟩ := q
        simp only at ho hk d0 d1 d2 hy H ⊢
        subst ho hy
        clear h hb hr hc e
        have hk' : xk ≤ 0 := by omega
        clear hk
        unfold ptr at *
        go_enter Try.func20, Try.ntmps20
        go_wp2_with (go_at_call 34; refine c.mono ?_; rintro e w' ⟨rfl, rfl⟩)
        go_ret
        exact ⟨rfl, H.out⟩
    · have e : S.fill (j : Int) (.int .i64 x) = (S, 130) := by simp [M.fill, hc, ho]
      rw [e]
      have H : Hid (To 65 81 w B m S w) := To.same h
      obtain ⟨xv, xk, xo⟩ := q
      simp only at ho d0 d1 d2
      clear h hb hr hc e hy d0
      unfold ptr at *
      go_enter Try.func20, Try.ntmps20
      go_wp2_with (go_at_call 34; refine c.mono ?_; rintro e w' ⟨rfl, rfl⟩)
      go_ret
      exact ⟨rfl, H.out⟩
theorem lock_at {w : World} {B m : Nat} {S : M} (h : IsM 65 81 w B m S) (i o : Int) : Calls Try.prog 44 #[ptr m, .int .i64 i, .int .i64 o] w fun r w' => r = .returned (.int .i64 (S.lock i o).2) ∧ To 65 81 w B m (S.lock i o).1 w' := by
  obtain ⟨g, hg, hb, hr⟩ := h.row
  by_cases hno : S.cell? i = none ∨ o < 1
  · have c := findFor_no hb i o h.rt.n2 (hno.imp_left M.cell_out)
    have e : S.lock i o = (S, 2) := by
      cases hc : S.cell? i with
      | none => simp [M.lock, hc]
      | some q => have : o < 1 := by rcases hno with h | h; rw [hc] at h; cases h; exact h
                  simp [M.lock, hc, this]
    rw [e]
    have H : Hid (To 65 81 w B m S w) := To.same h
    clear h hb hr hno e
    unfold ptr at *
    go_enter Try.func44, Try.ntmps44
    go_wp2_with (go_at_call 55; refine c.mono ?_; rintro e w' ⟨rfl, rfl⟩)
    go_ret
    exact ⟨rfl, H.out⟩
  · have ho1 : 1 ≤ o := by omega
    cases hc : S.cell? i with
    | none => exact absurd (.inl hc) hno
    | some q =>
    clear hno
    obtain ⟨j, rfl, hj, hl⟩ := M.cell_in hc
    have c := findFor_ok hb j hl h.rt.n2 o ho1
    obtain ⟨d0, d1, d2⟩ := hr.get hj
    have nlt : ¬ o < 1 := by omega
    by_cases ho : q.own ≠ 0 ∧ q.own ≠ o
    · have e : S.lock (j : Int) o = (S, 130) := by simp [M.lock, hc, ho, nlt]
      rw [e]
      have H : Hid (To 65 81 w B m S w) := To.same h
      obtain ⟨xv, xk, xo⟩ := q
      simp only at ho d0 d1 d2
      obtain ⟨ho, ho2⟩ := ho
      have q1 : (xo != 0) = true := by simpa using ho
      have q2 : (xo != o) = true := by simpa using ho2
      clear h hb hr hc e d0 nlt
      unfold ptr at *
      go_enter Try.func44, Try.ntmps44
      go_wp2_with (go_at_call 55; refine c.mono ?_; rintro e w' ⟨rfl, rfl⟩)
      go_ret
      exact ⟨rfl, H.out⟩
    · have e : S.lock (j : Int) o = (S.put (j : Int) { q with own := o }, 0) := by simp only [M.lock, hc, nlt, if_false, ho]
      rw [e]
      have H : Hid (To 65 81 w B m (S.put (j : Int) { q with own := o }) (w.setCell ⟨g, j * 3 + 2, none⟩ (.int .i64 o))) := To.ofRow h hg hb hr (by decide) (by simp) (hr.set2 hj _) (grown_store _ _ _ _)
      have f0 := Box.frozen hr (j * 3 + 2)
      obtain ⟨xv, xk, xo⟩ := q
      simp only at ho d0 d1 d2 H ⊢
      clear h hb hr hc e d0 nlt
      unfold ptr at *
      by_cases hz : xo = 0
      · subst hz
        clear ho
        go_enter Try.func44, Try.ntmps44
        go_wp2_with (go_at_call 55; refine c.mono ?_; rintro e w' ⟨rfl, rfl⟩)
        go_ret
        exact ⟨rfl, H.out⟩
      · have hz2 : xo = o := by simpa [hz] using ho
        subst hz2
        clear ho
        go_enter Try.func44, Try.ntmps44
        go_wp2_with (go_at_call 55; refine c.mono ?_; rintro e w' ⟨rfl, rfl⟩)
        go_ret
        exact ⟨rfl, H.out⟩

theorem publish_at {w : World} {B m : Nat} {S : M} (h : IsM 65 81 w B m S) (i o : Int) (x : Int) (k : Int) (hv : ∀ c, S.cell? i = some c → ∃ y : Int, c.v = .int .i64 y) : Calls Try.prog 58 #[ptr m, .int .i64 i, .int .i64 o, (.int .i64 x), .int .i64 k] w fun r w' => r = .returned (.int .i64 (S.publish i o (.int .i64 x) k).2) ∧ To 65 81 w B m (S.publish i o (.int .i64 x) k).1 w' := by
  obtain ⟨g, hg, hb, hr⟩ := h.row
  by_cases hno : S.cell? i = none ∨ o < 1
  · have c := findOf_no hb i o h.rt.n2 (hno.imp_left M.cell_out)
    have e : S.publish i o (.int .i64 x) k = (S, 2) := by
      cases hc : S.cell? i with
      | none => simp [M.publish, hc]
      | some q => have : o < 1 := by rcases hno with h | h; rw [hc] at h; cases h; exact h
                  simp [M.publish, hc, this]
    rw [e]
    have H : Hid (To 65 81 w B m S w) := To.same h
    clear h hb hr hno e hv
    unfold ptr at *
    go_enter Try.func58, Try.ntmps58
    go_wp2_with (go_at_call 53; refine c.mono ?_; rintro e w' ⟨rfl, rfl⟩)
    go_ret
    exact ⟨rfl, H.out⟩
  · have ho1 : 1 ≤ o := by omega
    cases hc : S.cell? i with
    | none => exact absurd (.inl hc) hno
    | some q =>
    clear hno
    obtain ⟨y, hy⟩ := hv q hc
    clear hv
    obtain ⟨j, rfl, hj, hl⟩ := M.cell_in hc
    obtain ⟨d0, d1, d2⟩ := hr.get hj
    have nlt : ¬ o < 1 := by omega
    by_cases ho : q.own = o
    · have c := findOf_ok hb j hl h.rt.n2 o ho1 (by rw [d2, ho])
      have ck : w.cell? ⟨m, 2, none⟩ = some (.int .i64 S.k) := hb.cell 2
      by_cases hk : k ≤ q.ver ∨ S.k < k
      · have e : S.publish (j : Int) o (.int .i64 x) k = (S, 131) := by simp [M.publish, hc, ho, hk, nlt]
        rw [e]
        have H : Hid (To 65 81 w B m S w) := To.same h
        obtain ⟨xv, xk, xo⟩ := q
        simp only at ho hk d0 d1 d2
        subst ho
        obtain ⟨sk, hsk⟩ : ∃ sk, sk = S.k := ⟨_, rfl⟩
        rw [← hsk] at hk ck
        clear h hb hr hc e hy d0 nlt hsk
        unfold ptr at *
        by_cases hz : k ≤ xk
        · clear hk
          go_enter Try.func58, Try.ntmps58
          go_wp2_with (go_at_call 53; refine c.mono ?_; rintro e w' ⟨rfl, rfl⟩)
          go_ret
          exact ⟨rfl, H.out⟩
        · have hz2 : sk < k := by omega
          clear hk
          go_enter Try.func58, Try.ntmps58
          go_wp2_with (go_at_call 53; refine c.mono ?_; rintro e w' ⟨rfl, rfl⟩)
          go_ret
          exact ⟨rfl, H.out⟩
      · have e : S.publish (j : Int) o (.int .i64 x) k = (S.put (j : Int) ⟨(.int .i64 x), k, 0⟩, 0) := by simp [M.publish, hc, ho, hk, nlt]
        rw [e]
        have H : Hid (To 65 81 w B m (S.put (j : Int) ⟨(.int .i64 x), k, 0⟩) (((w.setCell ⟨g, j * 3, none⟩ (.int .i64 x)).setCell ⟨g, j * 3 + 1, none⟩ (.int .i64 k)).setCell ⟨g, j * 3 + 2, none⟩ (.int .i64 0))) := To.ofRow h hg hb hr (by decide) (by simp) (hr.all hj _ _ _) (grown_store3 _ _ _ _ _ _ _ _)
        have f0 := Box.frozen hr (j * 3)
        have f1 := Box.frozen hr (j * 3 + 1)
        have f2 := Box.frozen hr (j * 3 + 2)
        obtain ⟨xv, xk, xo⟩ := q
        simp only at ho hk d0 d1 d2 hy H ⊢
        subst ho hy
        obtain ⟨sk, hsk⟩ : ∃ sk, sk = S.k := ⟨_, rfl⟩
        rw [← hsk] at hk ck
        clear h hb hr hc e nlt hsk
        have hk1 : xk < k := by omega
        have hk2 : k ≤ sk := by omega
        clear hk
        unfold ptr at *
        go_enter Try.func58, Try.ntmps58
        go_wp2_with (go_at_call 53; refine c.mono ?_; rintro e w' ⟨rfl, rfl⟩)
        go_ret
        exact ⟨rfl, H.out⟩
    · have c := findOf_busy hb j hl h.rt.n2 o q.own ho1 d2 ho
      have e : S.publish (j : Int) o (.int .i64 x) k = (S, 130) := by simp [M.publish, hc, ho, nlt]
      rw [e]
      have H : Hid (To 65 81 w B m S w) := To.same h
      clear h hb hr hc e hy d0 d1 d2 nlt ho
      unfold ptr at *
      go_enter Try.func58, Try.ntmps58
      go_wp2_with (go_at_call 53; refine c.mono ?_; rintro e w' ⟨rfl, rfl⟩)
      go_ret
      exact ⟨rfl, H.out⟩

end Go.Proofs.Ytafiopjgegmfoaa.C
