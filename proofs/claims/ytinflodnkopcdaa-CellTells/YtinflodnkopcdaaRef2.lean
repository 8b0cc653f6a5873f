/-
  The document's own Fill, Lock, Unlock, Publish.
-/
import Derived.Test.YtinflodnkopcdaaRef
namespace Go.Proofs.Ytinflodnkopcdaa
open Go.RowKit
theorem rfill_at {w : World} {B m : Nat} {S : M} (h : IsR w B m S) (i x : Int) (hv : ∀ c, S.cell? i = some c → ∃ y : Int, c.v = .int .i64 y) : Calls Try.prog 18 #[ptr m, .int .i64 i, .int .i64 x] w fun r w' => r = .returned (.int .i64 (S.fill i (.int .i64 x)).2) ∧ RTo w B m (S.fill i (.int .i64 x)).1 w' := by
  obtain ⟨g, hg, hb, hr⟩ := h.row
  cases hc : S.cell? i with
  | none =>
    have c := there_out hb i (M.cell_out hc)
    have e : (S.fill i (.int .i64 x)) = (S, 2) := by simp [M.fill, hc]
    rw [e]
    have nlt : True := trivial
    unfold ptr at *
    have H : Hid (RTo w B m S w) := RTo.same h
    clear h hb hr hc e nlt
    go_enter Try.func18, Try.ntmps18
    go_wp2_with (go_at_call 38; refine c.mono ?_; rintro e w' ⟨rfl, rfl⟩)
    go_ret
    exact ⟨rfl, H.out⟩
  | some q =>
    have nlt : True := trivial
    obtain ⟨j, rfl, hj, hl⟩ := M.cell_in hc
    have c := there_in hb j hl
    obtain ⟨d0, d1, d2⟩ := hr.get hj
    have c0 : w.cell? ⟨m, 0, none⟩ = some (.slice (some ⟨g, 0, none⟩) S.C.length S.C.length) := hb.cell 0
    have ck : w.cell? ⟨m, 1, none⟩ = some (.int .i64 S.k) := hb.cell 1
    have hli : (j : Int) < (S.C.length : Int) := by omega
    obtain ⟨n, hn⟩ : ∃ n, n = S.C.length := ⟨_, rfl⟩
    rw [← hn] at c0 hli
    clear hn
    have f0 := Box.frozen hr (j * 3)
    have f1 := Box.frozen hr (j * 3 + 1)
    have f2 := Box.frozen hr (j * 3 + 2)
    obtain ⟨xv, xk, xo⟩ := q
    simp only at d0 d1 d2
    obtain ⟨y, hy⟩ := hv _ hc
    simp only at hy
    subst hy
    clear hv
    by_cases ho : xo = 0
    · by_cases hk : 0 < xk
      · have e : S.fill (j : Int) (.int .i64 x) = (S, 131) := by simp [M.fill, hc, ho, hk]
        rw [e]
        subst ho
        unfold ptr at *
        have H : Hid (RTo w B m S w) := RTo.same h
        clear h hb hr hc e nlt
        go_enter Try.func18, Try.ntmps18
        go_wp2_with (go_at_call 38; refine c.mono ?_; rintro e w' ⟨rfl, rfl⟩)
        go_ret
        exact ⟨rfl, H.out⟩
      · have e : S.fill (j : Int) (.int .i64 x) = (S.put (j : Int) ⟨.int .i64 x, xk, xo⟩, 0) := by simp [M.fill, hc, ho, hk]
        rw [e]
        have H : Hid (RTo w B m (S.put (j : Int) ⟨.int .i64 x, xk, xo⟩) (w.setCell ⟨g, j * 3, none⟩ (.int .i64 x))) := RTo.ofRow h hg hb hr (by simp) (hr.set0 hj _) (grown_store _ _ _ _)
        subst ho
        have hk' : xk ≤ 0 := by omega
        clear hk
        unfold ptr at *
        clear h hb hr hc e nlt
        go_enter Try.func18, Try.ntmps18
        go_wp2_with (go_at_call 38; refine c.mono ?_; rintro e w' ⟨rfl, rfl⟩)
        go_ret
        exact ⟨rfl, H.out⟩
    · have e : S.fill (j : Int) (.int .i64 x) = (S, 130) := by simp [M.fill, hc, ho]
      rw [e]
      have hob : (xo != 0) = true := by simpa using ho
      unfold ptr at *
      have H : Hid (RTo w B m S w) := RTo.same h
      clear h hb hr hc e nlt
      go_enter Try.func18, Try.ntmps18
      go_wp2_with (go_at_call 38; refine c.mono ?_; rintro e w' ⟨rfl, rfl⟩)
      go_ret
      exact ⟨rfl, H.out⟩
theorem rlock_at {w : World} {B m : Nat} {S : M} (h : IsR w B m S) (i o : Int) : Calls Try.prog 19 #[ptr m, .int .i64 i, .int .i64 o] w fun r w' => r = .returned (.int .i64 (S.lock i o).2) ∧ RTo w B m (S.lock i o).1 w' := by
  obtain ⟨g, hg, hb, hr⟩ := h.row
  cases hc : S.cell? i with
  | none =>
    have c := there_out hb i (M.cell_out hc)
    have e : (S.lock i o) = (S, 2) := by simp [M.lock, hc]
    rw [e]
    have nlt : True := trivial
    unfold ptr at *
    have H : Hid (RTo w B m S w) := RTo.same h
    clear h hb hr hc e nlt
    go_enter Try.func19, Try.ntmps19
    go_wp2_with (go_at_call 38; refine c.mono ?_; rintro e w' ⟨rfl, rfl⟩)
    go_ret
    exact ⟨rfl, H.out⟩
  | some q =>
    by_cases olt : o < 1
    · obtain ⟨j, rfl, hj, hl⟩ := M.cell_in hc
      have c := there_in hb j hl
      have e : (S.lock (j : Int) o) = (S, 2) := by simp [M.lock, hc, olt]
      rw [e]
      have nlt : True := trivial
      unfold ptr at *
      have H : Hid (RTo w B m S w) := RTo.same h
      clear h hb hr hc e nlt
      go_enter Try.func19, Try.ntmps19
      go_wp2_with (go_at_call 38; refine c.mono ?_; rintro e w' ⟨rfl, rfl⟩)
      go_ret
      exact ⟨rfl, H.out⟩
    have nlt : ¬ o < 1 := olt
    have ho1 : 1 ≤ o := by omega
    clear olt
    obtain ⟨j, rfl, hj, hl⟩ := M.cell_in hc
    have c := there_in hb j hl
    obtain ⟨d0, d1, d2⟩ := hr.get hj
    have c0 : w.cell? ⟨m, 0, none⟩ = some (.slice (some ⟨g, 0, none⟩) S.C.length S.C.length) := hb.cell 0
    have ck : w.cell? ⟨m, 1, none⟩ = some (.int .i64 S.k) := hb.cell 1
    have hli : (j : Int) < (S.C.length : Int) := by omega
    obtain ⟨n, hn⟩ : ∃ n, n = S.C.length := ⟨_, rfl⟩
    rw [← hn] at c0 hli
    clear hn
    have f0 := Box.frozen hr (j * 3)
    have f1 := Box.frozen hr (j * 3 + 1)
    have f2 := Box.frozen hr (j * 3 + 2)
    obtain ⟨xv, xk, xo⟩ := q
    simp only at d0 d1 d2
    by_cases ho : xo ≠ 0 ∧ xo ≠ o
    · have e : S.lock (j : Int) o = (S, 130) := by simp [M.lock, hc, ho, nlt]
      rw [e]
      obtain ⟨ho, ho2⟩ := ho
      have q1 : (xo != 0) = true := by simpa using ho
      have q2 : (xo != o) = true := by simpa using ho2
      unfold ptr at *
      have H : Hid (RTo w B m S w) := RTo.same h
      clear h hb hr hc e nlt
      go_enter Try.func19, Try.ntmps19
      go_wp2_with (go_at_call 38; refine c.mono ?_; rintro e w' ⟨rfl, rfl⟩)
      go_ret
      exact ⟨rfl, H.out⟩
    · have e : S.lock (j : Int) o = (S.put (j : Int) ⟨xv, xk, o⟩, 0) := by simp only [M.lock, hc, nlt, if_false, ho]
      rw [e]
      have H : Hid (RTo w B m (S.put (j : Int) ⟨xv, xk, o⟩) (w.setCell ⟨g, j * 3 + 2, none⟩ (.int .i64 o))) := RTo.ofRow h hg hb hr (by simp) (hr.set2 hj _) (grown_store _ _ _ _)
      unfold ptr at *
      by_cases hz : xo = 0
      · subst hz
        clear ho
        clear h hb hr hc e nlt
        go_enter Try.func19, Try.ntmps19
        go_wp2_with (go_at_call 38; refine c.mono ?_; rintro e w' ⟨rfl, rfl⟩)
        go_ret
        exact ⟨rfl, H.out⟩
      · have hz2 : xo = o := by simpa [hz] using ho
        subst hz2
        clear ho
        have q1 : (xo != 0) = true := by simpa using hz
        clear h hb hr hc e nlt
        go_enter Try.func19, Try.ntmps19
        go_wp2_with (go_at_call 38; refine c.mono ?_; rintro e w' ⟨rfl, rfl⟩)
        go_ret
        exact ⟨rfl, H.out⟩
theorem runlock_at {w : World} {B m : Nat} {S : M} (h : IsR w B m S) (i o : Int) : Calls Try.prog 21 #[ptr m, .int .i64 i, .int .i64 o] w fun r w' => r = .returned (.int .i64 (S.unlock i o).2) ∧ RTo w B m (S.unlock i o).1 w' := by
  obtain ⟨g, hg, hb, hr⟩ := h.row
  cases hc : S.cell? i with
  | none =>
    have c := there_out hb i (M.cell_out hc)
    have e : (S.unlock i o) = (S, 2) := by simp [M.unlock, hc]
    rw [e]
    have nlt : True := trivial
    unfold ptr at *
    have H : Hid (RTo w B m S w) := RTo.same h
    clear h hb hr hc e nlt
    go_enter Try.func21, Try.ntmps21
    go_wp2_with (go_at_call 38; refine c.mono ?_; rintro e w' ⟨rfl, rfl⟩)
    go_ret
    exact ⟨rfl, H.out⟩
  | some q =>
    by_cases olt : o < 1
    · obtain ⟨j, rfl, hj, hl⟩ := M.cell_in hc
      have c := there_in hb j hl
      have e : (S.unlock (j : Int) o) = (S, 2) := by simp [M.unlock, hc, olt]
      rw [e]
      have nlt : True := trivial
      unfold ptr at *
      have H : Hid (RTo w B m S w) := RTo.same h
      clear h hb hr hc e nlt
      go_enter Try.func21, Try.ntmps21
      go_wp2_with (go_at_call 38; refine c.mono ?_; rintro e w' ⟨rfl, rfl⟩)
      go_ret
      exact ⟨rfl, H.out⟩
    have nlt : ¬ o < 1 := olt
    have ho1 : 1 ≤ o := by omega
    clear olt
    obtain ⟨j, rfl, hj, hl⟩ := M.cell_in hc
    have c := there_in hb j hl
    obtain ⟨d0, d1, d2⟩ := hr.get hj
    have c0 : w.cell? ⟨m, 0, none⟩ = some (.slice (some ⟨g, 0, none⟩) S.C.length S.C.length) := hb.cell 0
    have ck : w.cell? ⟨m, 1, none⟩ = some (.int .i64 S.k) := hb.cell 1
    have hli : (j : Int) < (S.C.length : Int) := by omega
    obtain ⟨n, hn⟩ : ∃ n, n = S.C.length := ⟨_, rfl⟩
    rw [← hn] at c0 hli
    clear hn
    have f0 := Box.frozen hr (j * 3)
    have f1 := Box.frozen hr (j * 3 + 1)
    have f2 := Box.frozen hr (j * 3 + 2)
    obtain ⟨xv, xk, xo⟩ := q
    simp only at d0 d1 d2
    by_cases ho : xo = o
    · have e : S.unlock (j : Int) o = (S.put (j : Int) ⟨xv, xk, 0⟩, 0) := by simp [M.unlock, hc, ho, nlt]
      rw [e]
      have H : Hid (RTo w B m (S.put (j : Int) ⟨xv, xk, 0⟩) (w.setCell ⟨g, j * 3 + 2, none⟩ (.int .i64 0))) := RTo.ofRow h hg hb hr (by simp) (hr.set2 hj _) (grown_store _ _ _ _)
      subst ho
      unfold ptr at *
      clear h hb hr hc e nlt
      go_enter Try.func21, Try.ntmps21
      go_wp2_with (go_at_call 38; refine c.mono ?_; rintro e w' ⟨rfl, rfl⟩)
      go_ret
      exact ⟨rfl, H.out⟩
    · have e : S.unlock (j : Int) o = (S, 130) := by simp [M.unlock, hc, ho, nlt]
      rw [e]
      have q2 : (xo != o) = true := by simpa using ho
      unfold ptr at *
      have H : Hid (RTo w B m S w) := RTo.same h
      clear h hb hr hc e nlt
      go_enter Try.func21, Try.ntmps21
      go_wp2_with (go_at_call 38; refine c.mono ?_; rintro e w' ⟨rfl, rfl⟩)
      go_ret
      exact ⟨rfl, H.out⟩
theorem rpublish_at {w : World} {B m : Nat} {S : M} (h : IsR w B m S) (i o x k : Int) (hv : ∀ c, S.cell? i = some c → ∃ y : Int, c.v = .int .i64 y) : Calls Try.prog 22 #[ptr m, .int .i64 i, .int .i64 o, .int .i64 x, .int .i64 k] w fun r w' => r = .returned (.int .i64 (S.publish i o (.int .i64 x) k).2) ∧ RTo w B m (S.publish i o (.int .i64 x) k).1 w' := by
  obtain ⟨g, hg, hb, hr⟩ := h.row
  cases hc : S.cell? i with
  | none =>
    have c := there_out hb i (M.cell_out hc)
    have e : (S.publish i o (.int .i64 x) k) = (S, 2) := by simp [M.publish, hc]
    rw [e]
    have nlt : True := trivial
    unfold ptr at *
    have H : Hid (RTo w B m S w) := RTo.same h
    clear h hb hr hc e nlt
    go_enter Try.func22, Try.ntmps22
    go_wp2_with (go_at_call 38; refine c.mono ?_; rintro e w' ⟨rfl, rfl⟩)
    go_ret
    exact ⟨rfl, H.out⟩
  | some q =>
    by_cases olt : o < 1
    · obtain ⟨j, rfl, hj, hl⟩ := M.cell_in hc
      have c := there_in hb j hl
      have e : (S.publish (j : Int) o (.int .i64 x) k) = (S, 2) := by simp [M.publish, hc, olt]
      rw [e]
      have nlt : True := trivial
      unfold ptr at *
      have H : Hid (RTo w B m S w) := RTo.same h
      clear h hb hr hc e nlt
      go_enter Try.func22, Try.ntmps22
      go_wp2_with (go_at_call 38; refine c.mono ?_; rintro e w' ⟨rfl, rfl⟩)
      go_ret
      exact ⟨rfl, H.out⟩
    have nlt : ¬ o < 1 := olt
    have ho1 : 1 ≤ o := by omega
    clear olt
    obtain ⟨j, rfl, hj, hl⟩ := M.cell_in hc
    have c := there_in hb j hl
    obtain ⟨d0, d1, d2⟩ := hr.get hj
    have c0 : w.cell? ⟨m, 0, none⟩ = some (.slice (some ⟨g, 0, none⟩) S.C.length S.C.length) := hb.cell 0
    have ck : w.cell? ⟨m, 1, none⟩ = some (.int .i64 S.k) := hb.cell 1
    have hli : (j : Int) < (S.C.length : Int) := by omega
    obtain ⟨n, hn⟩ : ∃ n, n = S.C.length := ⟨_, rfl⟩
    rw [← hn] at c0 hli
    clear hn
    have f0 := Box.frozen hr (j * 3)
    have f1 := Box.frozen hr (j * 3 + 1)
    have f2 := Box.frozen hr (j * 3 + 2)
    obtain ⟨xv, xk, xo⟩ := q
    simp only at d0 d1 d2
    obtain ⟨y, hy⟩ := hv _ hc
    simp only at hy
    subst hy
    clear hv
    by_cases ho : xo = o
    · by_cases hk : k ≤ xk ∨ S.k < k
      · have e : S.publish (j : Int) o (.int .i64 x) k = (S, 131) := by simp [M.publish, hc, ho, hk, nlt]
        rw [e]
        obtain ⟨sk, hsk⟩ : ∃ sk, sk = S.k := ⟨_, rfl⟩
        rw [← hsk] at hk ck
        clear hsk
        subst ho
        unfold ptr at *
        by_cases hz : k ≤ xk
        · clear hk
          have H : Hid (RTo w B m S w) := RTo.same h
          clear h hb hr hc e nlt
          go_enter Try.func22, Try.ntmps22
          go_wp2_with (go_at_call 38; refine c.mono ?_; rintro e w' ⟨rfl, rfl⟩)
          go_ret
          exact ⟨rfl, H.out⟩
        · have hz2 : sk < k := by omega
          clear hk
          have H : Hid (RTo w B m S w) := RTo.same h
          clear h hb hr hc e nlt
          go_enter Try.func22, Try.ntmps22
          go_wp2_with (go_at_call 38; refine c.mono ?_; rintro e w' ⟨rfl, rfl⟩)
          go_ret
          exact ⟨rfl, H.out⟩
      · have e : S.publish (j : Int) o (.int .i64 x) k = (S.put (j : Int) ⟨.int .i64 x, k, 0⟩, 0) := by simp [M.publish, hc, ho, hk, nlt]
        rw [e]
        have H : Hid (RTo w B m (S.put (j : Int) ⟨.int .i64 x, k, 0⟩) (((w.setCell ⟨g, j * 3, none⟩ (.int .i64 x)).setCell ⟨g, j * 3 + 1, none⟩ (.int .i64 k)).setCell ⟨g, j * 3 + 2, none⟩ (.int .i64 0))) := RTo.ofRow h hg hb hr (by simp) (hr.all hj _ _ _) (grown_store3 _ _ _ _ _ _ _ _)
        obtain ⟨sk, hsk⟩ : ∃ sk, sk = S.k := ⟨_, rfl⟩
        rw [← hsk] at hk ck
        clear hsk
        subst ho
        have hk1 : xk < k := by omega
        have hk2 : k ≤ sk := by omega
        clear hk
        unfold ptr at *
        clear h hb hr hc e nlt
        go_enter Try.func22, Try.ntmps22
        go_wp2_with (go_at_call 38; refine c.mono ?_; rintro e w' ⟨rfl, rfl⟩)
        go_ret
        exact ⟨rfl, H.out⟩
    · have e : S.publish (j : Int) o (.int .i64 x) k = (S, 130) := by simp [M.publish, hc, ho, nlt]
      rw [e]
      have q2 : (xo != o) = true := by simpa using ho
      unfold ptr at *
      have H : Hid (RTo w B m S w) := RTo.same h
      clear h hb hr hc e nlt
      go_enter Try.func22, Try.ntmps22
      go_wp2_with (go_at_call 38; refine c.mono ?_; rintro e w' ⟨rfl, rfl⟩)
      go_ret
      exact ⟨rfl, H.out⟩
end Go.Proofs.Ytinflodnkopcdaa
