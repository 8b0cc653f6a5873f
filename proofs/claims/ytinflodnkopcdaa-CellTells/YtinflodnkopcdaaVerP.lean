/-
  What one call does to a memory of numbers, plainly: versions never fall and are at most the clock, a value changes with its version alone, but for a Fill at version 0.
-/
import Derived.Test.YtinflodnkopcdaaMem
namespace Go.Proofs.Ytinflodnkopcdaa
open Go.RowKit
/-- values are numbers; versions are from 0 to the clock -/
structure Gd (S : M) : Prop where
  num : ∀ c ∈ S.C, ∃ y : Int, c.v = .int .i64 y
  ver : ∀ c ∈ S.C, 0 ≤ c.ver ∧ c.ver ≤ S.k
theorem M.cell_mem {S : M} {i : Int} {c : Cl} (h : S.cell? i = some c) : c ∈ S.C := by
  obtain ⟨j, _, hj, _⟩ := M.cell_in h
  exact List.mem_of_getElem? hj
theorem Gd.hv {S : M} (h : Gd S) (i : Int) : ∀ c, S.cell? i = some c → ∃ y : Int, c.v = .int .i64 y := fun c hc => h.num c (M.cell_mem hc)
theorem Gd.put {S : M} (h : Gd S) (i : Int) (c : Cl) (h1 : ∃ y : Int, c.v = .int .i64 y) (h2 : 0 ≤ c.ver ∧ c.ver ≤ S.k) : Gd (S.put i c) :=
  ⟨fun x hx => by rcases List.mem_or_eq_of_mem_set hx with hx | rfl; exact h.num x hx; exact h1, fun x hx => by rcases List.mem_or_eq_of_mem_set hx with hx | rfl; exact h.ver x hx; exact h2⟩
theorem Gd.adv {S : M} (h : Gd S) : Gd S.adv.1 := by
  unfold M.adv; split
  · exact h
  · exact ⟨h.num, fun c hc => by have := h.ver c hc; simp; omega⟩
theorem Gd.fill {S : M} (h : Gd S) (i x : Int) : Gd (S.fill i (.int .i64 x)).1 := by
  unfold M.fill
  cases hc : S.cell? i with
  | none => exact h
  | some c =>
    simp only
    repeat' split
    all_goals first | exact h | exact h.put _ _ ⟨_, rfl⟩ (h.ver c (M.cell_mem hc))
theorem Gd.lock {S : M} (h : Gd S) (i o : Int) : Gd (S.lock i o).1 := by
  unfold M.lock
  cases hc : S.cell? i with
  | none => exact h
  | some c =>
    simp only
    repeat' split
    all_goals first | exact h | exact h.put _ _ (h.num c (M.cell_mem hc)) (h.ver c (M.cell_mem hc))
theorem Gd.unlock {S : M} (h : Gd S) (i o : Int) : Gd (S.unlock i o).1 := by
  unfold M.unlock
  cases hc : S.cell? i with
  | none => exact h
  | some c =>
    simp only
    repeat' split
    all_goals first | exact h | exact h.put _ _ (h.num c (M.cell_mem hc)) (h.ver c (M.cell_mem hc))
theorem Gd.publish {S : M} (h : Gd S) (i o x k : Int) : Gd (S.publish i o (.int .i64 x) k).1 := by
  unfold M.publish
  cases hc : S.cell? i with
  | none => exact h
  | some c =>
    simp only
    have := h.ver c (M.cell_mem hc)
    split
    · exact h
    · split
      · exact h
      · split
        · exact h
        · exact h.put _ _ ⟨_, rfl⟩ (by simp; omega)
theorem M.adv_len (S : M) : S.adv.1.C.length = S.C.length := by unfold M.adv; split <;> rfl
theorem M.fill_len (S : M) (i : Int) (v : Value) : (S.fill i v).1.C.length = S.C.length := by
  unfold M.fill; repeat' split
  all_goals first | rfl | simp [M.put]
theorem M.lock_len (S : M) (i o : Int) : (S.lock i o).1.C.length = S.C.length := by
  unfold M.lock; repeat' split
  all_goals first | rfl | simp [M.put]
theorem M.unlock_len (S : M) (i o : Int) : (S.unlock i o).1.C.length = S.C.length := by
  unfold M.unlock; repeat' split
  all_goals first | rfl | simp [M.put]
theorem M.publish_len (S : M) (i o : Int) (v : Value) (k : Int) : (S.publish i o v k).1.C.length = S.C.length := by
  unfold M.publish; repeat' split
  all_goals first | rfl | simp [M.put]
/-- what a call may do -/
structure Stp (S S' : M) (done I V : Int) : Prop where
  len : S'.C.length = S.C.length
  each : ∀ (i : Nat) c c', S.C[i]? = some c → S'.C[i]? = some c' → c.ver ≤ c'.ver ∧ c'.ver ≤ S'.k ∧ (c'.v ≠ c.v → (i : Int) = I ∧ done = 0 ∧ c'.v = .int .i64 V ∧ (c'.ver = c.ver → c'.ver = 0))
theorem Stp.same {S : M} (h : Gd S) (done I V : Int) : Stp S S done I V := ⟨rfl, fun i c c' h1 h2 => by
  rw [h1] at h2; injection h2 with h2; subst h2
  exact ⟨Int.le_refl _, (h.ver c (List.mem_of_getElem? h1)).2, fun hn => absurd rfl hn⟩⟩
theorem Stp.put {S : M} (h : Gd S) {i : Int} {q : Cl} (hq : S.cell? i = some q) (d : Cl) (done V : Int) (h1 : q.ver ≤ d.ver) (h2 : d.ver ≤ S.k) (h3 : d.v ≠ q.v → done = 0 ∧ d.v = .int .i64 V ∧ (d.ver = q.ver → d.ver = 0)) : Stp S (S.put i d) done i V := by
  refine ⟨by simp [M.put], fun j c c' hc hc' => ?_⟩
  obtain ⟨n, rfl, hn, hl⟩ := M.cell_in hq
  simp only [M.put, Int.toNat_natCast] at hc' ⊢
  by_cases e : j = n
  · subst e
    rw [hn] at hc; injection hc with hc; subst hc
    rw [getElem?_set_self' hn] at hc'; injection hc' with hc'; subst hc'
    exact ⟨h1, h2, fun hne => ⟨rfl, h3 hne⟩⟩
  · rw [List.getElem?_set_ne (Ne.symm e)] at hc'
    rw [hc] at hc'; injection hc' with hc'; subst hc'
    exact ⟨Int.le_refl _, (h.ver c (List.mem_of_getElem? hc)).2, fun hn => absurd rfl hn⟩
theorem Stp.adv {S : M} (h : Gd S) (done I V : Int) : Stp S S.adv.1 done I V := by
  unfold M.adv; split
  · exact Stp.same h _ _ _
  · refine ⟨rfl, fun i c c' h1 h2 => ?_⟩
    simp only at h2 ⊢
    rw [h1] at h2; injection h2 with h2; subst h2
    have := h.ver c (List.mem_of_getElem? h1)
    exact ⟨Int.le_refl _, by omega, fun hn => absurd rfl hn⟩
theorem Stp.fill {S : M} (h : Gd S) (i x : Int) : Stp S (S.fill i (.int .i64 x)).1 (S.fill i (.int .i64 x)).2 i x := by
  cases hc : S.cell? i with
  | none => simp only [M.fill, hc]; exact Stp.same h _ _ _
  | some c =>
    simp only [M.fill, hc]
    have := h.ver c (M.cell_mem hc)
    split
    · exact Stp.same h _ _ _
    · split
      · exact Stp.same h _ _ _
      · exact Stp.put h hc _ _ _ (Int.le_refl _) this.2 (fun _ => ⟨rfl, rfl, fun _ => by simp only; omega⟩)
theorem Stp.lock {S : M} (h : Gd S) (i o done I V : Int) (hi : i = I) : Stp S (S.lock i o).1 done I V := by
  subst hi
  cases hc : S.cell? i with
  | none => simp only [M.lock, hc]; exact Stp.same h _ _ _
  | some c =>
    simp only [M.lock, hc]
    have := h.ver c (M.cell_mem hc)
    split
    · exact Stp.same h _ _ _
    · split
      · exact Stp.same h _ _ _
      · exact Stp.put h hc _ _ _ (Int.le_refl _) this.2 (fun hn => absurd rfl hn)
theorem Stp.unlock {S : M} (h : Gd S) (i o done I V : Int) (hi : i = I) : Stp S (S.unlock i o).1 done I V := by
  subst hi
  cases hc : S.cell? i with
  | none => simp only [M.unlock, hc]; exact Stp.same h _ _ _
  | some c =>
    simp only [M.unlock, hc]
    have := h.ver c (M.cell_mem hc)
    split
    · exact Stp.same h _ _ _
    · split
      · exact Stp.same h _ _ _
      · exact Stp.put h hc _ _ _ (Int.le_refl _) this.2 (fun hn => absurd rfl hn)
theorem Stp.publish {S : M} (h : Gd S) (i o x k : Int) : Stp S (S.publish i o (.int .i64 x) k).1 (S.publish i o (.int .i64 x) k).2 i x := by
  cases hc : S.cell? i with
  | none => simp only [M.publish, hc]; exact Stp.same h _ _ _
  | some c =>
    simp only [M.publish, hc]
    have := h.ver c (M.cell_mem hc)
    split
    · exact Stp.same h _ _ _
    · split
      · exact Stp.same h _ _ _
      · split
        · exact Stp.same h _ _ _
        · exact Stp.put h hc _ _ _ (by simp only; omega) (by simp only; omega) (fun _ => ⟨rfl, rfl, fun e => by simp only at e; omega⟩)
/-- only the owner publishes -/
theorem M.publish_own {S : M} (i o : Int) (v : Value) (k : Int) (h : (S.publish i o v k).2 = 0) : ∃ c, S.cell? i = some c ∧ c.own = o := by
  cases hc : S.cell? i with
  | none => simp [M.publish, hc] at h
  | some c =>
    refine ⟨c, rfl, ?_⟩
    simp only [M.publish, hc] at h
    by_cases ho : c.own = o
    · exact ho
    · simp only [ho, not_false_eq_true, if_true, ne_eq] at h
      split at h <;> simp at h
/-- the first i of the new ones, then the old ones -/
def mix (i : Nat) (C C' : List Cl) : List Cl := C'.take i ++ C.drop i
theorem mix_zero (C C' : List Cl) : mix 0 C C' = C := by simp [mix]
theorem mix_all (C C' : List Cl) (h : C'.length = C.length) : mix C.length C C' = C' := by simp [mix, ← h]
theorem mix_get {C C' : List Cl} {i : Nat} (hl : C'.length = C.length) (hi : i < C.length) : (mix i C C')[i]? = C[i]? := by
  simp [mix, List.getElem?_append_right, hl, Nat.min_eq_left (Nat.le_of_lt hi)]
theorem mix_set {C C' : List Cl} {i : Nat} (hl : C'.length = C.length) (hi : i < C.length) {c' : Cl} (hc : C'[i]? = some c') : (mix i C C').set i c' = mix (i + 1) C C' := by
  have h1 : (C'.take i).length = i := by simp [hl]; omega
  have hd : C.drop i = C[i] :: C.drop (i + 1) := by rw [List.drop_eq_getElem_cons hi]
  have ht : C'.take (i + 1) = C'.take i ++ [c'] := by rw [List.take_add_one, hc]; rfl
  unfold mix
  rw [List.set_append_right _ _ (by omega), h1, Nat.sub_self, hd, ht, List.set_cons_zero, List.append_assoc]
  rfl
end Go.Proofs.Ytinflodnkopcdaa
