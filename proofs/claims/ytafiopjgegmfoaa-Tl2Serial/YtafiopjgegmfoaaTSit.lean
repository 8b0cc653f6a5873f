/-
  Several transactions over one memory.
-/
import Derived.Test.YtafiopjgegmfoaaTStepC
import Derived.Test.YtafiopjgegmfoaaTNum
namespace Go.Proofs.Ytafiopjgegmfoaa.T
open Go.RowKit Go.Proofs.Ytafiopjgegmfoaa.C

theorem TX.Rdy.go {X : TX} (h : X.Rdy) (S : M) : (X.go S).2.2.2.Rdy := by
  unfold TX.go
  split
  · exact h
  · rename_i s L hl
    have hk := do1_keeps { X with left := L } S s
    unfold TX.fin
    split
    · exact fun e => by simp [TX.fail] at e
    · split
      · exact fun e => by simp at e
      · rename_i hL
        exact fun _ e => hL (by rw [hk.1] at e; simp at e; simp [e])
theorem TX.Rdy.step {X : TX} (h : X.Rdy) (S : M) : (X.step S).2.2.2.Rdy := by
  unfold TX.step
  split
  · exact h
  · split
    · exact TX.Rdy.go (fun _ => ends_ne X) S
    · exact h.go S

structure Sit (w0 u : World) (m gm : Nat) (S : M) (n : Nat) (p : Nat → Nat) (X : Nat → TX) : Prop where
  mm : MM u w0.heap.size m gm S
  num : Num S
  bel : Below w0.heap.size w0 u
  rdy : ∀ j, j < n → (X j).Rdy
  tx : ∃ F : Nat → Nat → Prop, ∀ j, j < n → IsX u w0.heap.size (p j) m (X j) (F j) ∧ ¬ F j m ∧ ¬ F j gm ∧ ∀ i, i < n → i ≠ j → ∀ x, F j x → ¬ F i x
variable {w0 u u' : World} {m gm n : Nat} {S S' : M} {p : Nat → Nat} {X : Nat → TX}
theorem Sit.call {F : Nat → Nat → Prop} (h : Sit w0 u m gm S n p X) (hF : ∀ j, j < n → IsX u w0.heap.size (p j) m (X j) (F j) ∧ ¬ F j m ∧ ¬ F j gm ∧ ∀ i, i < n → i ≠ j → ∀ x, F j x → ¬ F i x) (j : Nat) (hj : j < n) {X' : TX} (ht : ToX u w0.heap.size (p j) m gm S' X' (F j) u') (hN : Num S') (hr : X'.Rdy) : Sit w0 u' m gm S' n p (upd X j X') := by
  refine ⟨ht.mm, hN, h.bel.trans ht.bel, fun i hi => ?_, upd F j (grow (F j) u u'), fun i hi => ?_⟩
  · by_cases e : i = j
    · subst e; rw [upd_same]; exact hr
    · rw [upd_other _ _ e]; exact h.rdy i hi
  · by_cases e : i = j
    · subst e
      rw [upd_same, upd_same]
      refine ⟨ht.tx, grow_not (hF i hi).2.1 h.mm.lt.1.2, grow_not (hF i hi).2.2.1 h.mm.lt.2.2, fun k hk hki x hx => ?_⟩
      rw [upd_other _ _ hki]
      intro hfk
      rcases hx with hx | hx
      · exact (hF i hi).2.2.2 k hk hki x hx hfk
      · have := ((hF k hk).1.fB x hfk).2
        omega
    · rw [upd_other _ _ e, upd_other _ _ e]
      refine ⟨(hF i hi).1.upd ht.upd (fun x hx hn => ?_), (hF i hi).2.1, (hF i hi).2.2.1, fun k hk hki x hx => ?_⟩
      · rcases hn with hn | rfl | rfl
        · exact (hF j hj).2.2.2 i hi e x hn hx
        · exact (hF i hi).2.1 hx
        · exact (hF i hi).2.2.1 hx
      · by_cases ek : k = j
        · subst ek
          rw [upd_same]
          intro hg
          rcases hg with hg | hg
          · exact (hF i hi).2.2.2 k hk hki x hx hg
          · have := ((hF i hi).1.fB x hx).2
            omega
        · rw [upd_other _ _ ek]
          exact (hF i hi).2.2.2 k hk hki x hx
theorem Sit.below (h : Sit w0 u m gm S n p X) (hb : Below u.heap.size u u') : Sit w0 u' m gm S n p X := by
  obtain ⟨F, hF⟩ := h.tx
  exact ⟨h.mm.below hb, h.num, h.bel.trans (hb.mono h.mm.hB), h.rdy, F, fun j hj => ⟨(hF j hj).1.below hb, (hF j hj).2⟩⟩
theorem Sit.drew (h : Sit w0 u m gm S n p X) (q : Nat) : Sit w0 (u.drewN q) m gm S n p X := h.below ⟨rfl, rfl, rfl, Nat.le_refl _, fun _ _ => rfl⟩
theorem Sit.alloc (h : Sit w0 u m gm S n p X) (o : Obj) : Sit w0 (u.alloc o) m gm S n p X := h.below ((Below.refl _ _).alloc (Nat.le_refl _) o)
theorem Sit.read (h : Sit w0 u m gm S n p X) (j : Nat) (hj : j < n) (i : Int) (hi : (Lit.int .i64 i).wf = true) : Calls Try.prog 13 #[ptr (p j), .int .i64 i] u fun r u' => r = .returned (.tuple #[.int .i64 ((X j).read S i).1, .int .i64 ((X j).read S i).2.1]) ∧ Sit w0 u' m gm ((X j).read S i).2.2.1 n p (upd X j ((X j).read S i).2.2.2) := by
  obtain ⟨F, hF⟩ := h.tx
  exact (read_at h.mm (hF j hj).1 (hF j hj).2.1 (hF j hj).2.2.1 h.num i hi).mono fun r u' ⟨e, ht⟩ => ⟨e, h.call hF j hj ht (h.num.read _ _) ((h.rdy j hj).read _ _)⟩
theorem Sit.write (h : Sit w0 u m gm S n p X) (j : Nat) (hj : j < n) (i v : Int) : Calls Try.prog 14 #[ptr (p j), .int .i64 i, .int .i64 v] u fun r u' => r = .returned (.int .i64 ((X j).write S i v).1) ∧ Sit w0 u' m gm S n p (upd X j ((X j).write S i v).2) := by
  obtain ⟨F, hF⟩ := h.tx
  exact (write_at h.mm (hF j hj).1 (hF j hj).2.1 (hF j hj).2.2.1 i v).mono fun r u' ⟨e, ht⟩ => ⟨e, h.call hF j hj ht h.num ((h.rdy j hj).write _ _ _)⟩
theorem Sit.step (h : Sit w0 u m gm S n p X) (j : Nat) (hj : j < n) : Calls Try.prog 17 #[ptr (p j)] u fun r u' => r = .returned (.tuple #[.int .u8 ((X j).step S).1, .int .i64 ((X j).step S).2.1]) ∧ Sit w0 u' m gm ((X j).step S).2.2.1 n p (upd X j ((X j).step S).2.2.2) := by
  obtain ⟨F, hF⟩ := h.tx
  exact (step_at h.mm (hF j hj).1 (hF j hj).2.1 (hF j hj).2.2.1 h.num (h.rdy j hj)).mono fun r u' ⟨e, ht⟩ => ⟨e, h.call hF j hj ht (h.num.step _) ((h.rdy j hj).step _)⟩
theorem Sit.abort (h : Sit w0 u m gm S n p X) (j : Nat) (hj : j < n) : Calls Try.prog 15 #[ptr (p j)] u fun r u' => r = .returned (.int .i64 ((X j).abort S).1) ∧ Sit w0 u' m gm ((X j).abort S).2.1 n p (upd X j ((X j).abort S).2.2) := by
  obtain ⟨F, hF⟩ := h.tx
  exact (abort_at h.mm (hF j hj).1 (hF j hj).2.1 (hF j hj).2.2.1).mono fun r u' ⟨e, ht⟩ => ⟨e, h.call hF j hj ht (h.num.abort _) ((h.rdy j hj).abort _)⟩
theorem Sit.status (h : Sit w0 u m gm S n p X) (j : Nat) (hj : j < n) : Calls Try.prog 16 #[ptr (p j)] u fun r u' => r = .returned (.int .u8 (X j).st) ∧ u' = u := by
  obtain ⟨F, hF⟩ := h.tx
  exact status_at (hF j hj).1
theorem Sit.version (h : Sit w0 u m gm S n p X) (j : Nat) (hj : j < n) : Calls Try.prog 18 #[ptr (p j)] u fun r u' => r = .returned (.int .i64 (if (X j).st = 3 then (X j).ver else 0)) ∧ u' = u := by
  obtain ⟨F, hF⟩ := h.tx
  exact version_at (hF j hj).1
/-- one more begins -/
theorem Sit.begin (h : Sit w0 u m gm S n p X) (o : Int) (ho : 1 ≤ o) (ho2 : o < 9223372036854775808) : Calls Try.prog 10 #[ptr m, .int .i64 o] u fun r u' => ∃ g, r = .returned (.tuple #[ptr g, .int .i64 0]) ∧ Sit w0 u' m gm S (n + 1) (upd p n g) (upd X n (X0 o S.k)) := by
  obtain ⟨F, hF⟩ := h.tx
  refine (begin_at h.mm o ho ho2).mono fun r u' ⟨g, e, hx, hb⟩ => ⟨g, e, ?_⟩
  have hB := h.mm.hB
  refine ⟨h.mm.below hb, h.num, h.bel.trans (hb.mono hB), fun i hi => ?_, upd F n (fun x => u.heap.size ≤ x ∧ x < u'.heap.size), fun i hi => ?_⟩
  · by_cases e : i = n
    · subst e; rw [upd_same]; exact fun e => by simp [X0] at e
    · rw [upd_other _ _ e]; exact h.rdy i (by omega)
  · by_cases e : i = n
    · subst e
      rw [upd_same, upd_same, upd_same]
      obtain ⟨s, lv, P, Q, hT⟩ := hx
      have hT' : IsT u' w0.heap.size g m (X0 o S.k) (fun x => u.heap.size ≤ x ∧ x < u'.heap.size) s lv P Q := { hT with sets := T.IsS.base hT.sets hB, fB := fun x hx => ⟨Nat.le_trans hB hx.1, hx.2⟩ }
      refine ⟨⟨s, lv, P, Q, hT'⟩, fun e => ?_, fun e => ?_, fun k hk hki x hx => ?_⟩
      · have := h.mm.lt.1.2; omega
      · have := h.mm.lt.2.2; omega
      · rw [upd_other _ _ hki]
        intro hf
        have := ((hF k (by omega)).1.fB x hf).2
        omega
    · have hi' : i < n := by omega
      rw [upd_other _ _ e, upd_other _ _ e, upd_other _ _ e]
      refine ⟨(hF i hi').1.below hb, (hF i hi').2.1, (hF i hi').2.2.1, fun k hk hki x hx => ?_⟩
      by_cases ek : k = n
      · subst ek
        rw [upd_same]
        intro hf
        have := ((hF i hi').1.fB x hx).2
        omega
      · rw [upd_other _ _ ek]
        exact (hF i hi').2.2.2 k (by omega) hki x hx
theorem Sit.none {w : World} {B m gm : Nat} (h : MM w B m gm S) (hN : Num S) {w0 : World} (hB : B = w0.heap.size) (hb : Below w0.heap.size w0 w) (p : Nat → Nat) (X : Nat → TX) : Sit w0 w m gm S 0 p X := by
  subst hB
  exact ⟨h, hN, hb, fun j hj => by omega, fun _ _ => False, fun j hj => by omega⟩
end Go.Proofs.Ytafiopjgegmfoaa.T
