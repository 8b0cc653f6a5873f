/-
  Several transactions over one memory.
-/
import Derived.Test.YtdneikfocefnfaaTStepC
namespace Go.Proofs.Ytdneikfocefnfaa.T
open Go.RowKit Go.Proofs.Ytdneikfocefnfaa.C

/-! ### what stays true -/
theorem IsS.base {α : Type} {enc : α → Value} {tS tM : TypeId} {w : World} {B B' g : Nat} {S : SS α} {F : Nat → Prop} (h : IsS enc tS tM w B' g S F) (hB : B ≤ B') : IsS enc tS tM w B g S F := by
  obtain ⟨rb, wb, v, X, h⟩ := h
  refine ⟨rb, wb, v, X, { h with row := ?_, fB := fun x hx => ⟨by have := (h.fB x hx).1; omega, (h.fB x hx).2⟩ }⟩
  refine ⟨h.row.1, ?_⟩
  rcases h.row.2 with h1 | ⟨q, cap, cur, h1, hb, hg, r⟩
  · exact .inl h1
  · exact .inr ⟨q, cap, cur, h1, by omega, hg, r⟩
theorem rel_cell (S : M) (o i : Int) : (S.rel o).cell? i = (S.cell? i).map (fun c => if c.own = o then { c with own := 0 } else c) := by
  unfold M.cell? M.rel
  split
  · simp
  · rfl
theorem Num.rel {S : M} (h : Num S) (o : Int) : Num (S.rel o) := fun i c hc => by
  rw [rel_cell] at hc
  cases hs : S.cell? i with
  | none => rw [hs] at hc; cases hc
  | some x =>
    rw [hs] at hc
    simp only [Option.map_some, Option.some.injEq] at hc
    obtain ⟨y, hy⟩ := h i x hs
    refine ⟨y, ?_⟩
    rw [← hc]
    split
    · exact hy
    · exact hy
theorem put_cell (S : M) (i : Int) (c : Cl) (h : ∃ x, S.cell? i = some x) (j : Int) : (S.put i c).cell? j = if j = i then some c else S.cell? j := by
  obtain ⟨x, hx⟩ := h
  obtain ⟨k, rfl, hk, hl⟩ := M.cell_in hx
  unfold M.cell? M.put
  by_cases hj : 0 ≤ j
  · rw [if_pos hj, if_pos hj]
    show (S.C.set ((k : Int)).toNat c)[j.toNat]? = _
    rw [List.getElem?_set, show ((k : Int)).toNat = k by omega]
    by_cases e : j = (k : Int)
    · rw [if_pos e, if_pos (by omega), if_pos hl]
    · rw [if_neg e, if_neg (by omega)]
  · rw [if_neg hj, if_neg hj, if_neg (by omega)]
theorem Num.put {S : M} (h : Num S) (i : Int) (c : Cl) (hx : ∃ x, S.cell? i = some x) (hc : ∃ y : Int, c.v = .int .i64 y) : Num (S.put i c) := fun j d hd => by
  rw [put_cell S i c hx] at hd
  split at hd
  · injection hd with hd; rw [← hd]; exact hc
  · exact h j d hd
theorem Num.lock {S : M} (h : Num S) (i o : Int) : Num (S.lock i o).1 := by
  unfold M.lock
  cases hc : S.cell? i with
  | none => exact h
  | some c =>
    dsimp only
    repeat' split
    all_goals first | exact h | exact h.put i _ ⟨c, hc⟩ (h i c hc)
theorem Num.adv {S : M} (h : Num S) : Num S.adv.1 := by
  unfold M.adv
  split
  · exact h
  · exact fun i c hc => h i c hc
theorem Num.publish {S : M} (h : Num S) (i o x k : Int) : Num (S.publish i o (.int .i64 x) k).1 := by
  unfold M.publish
  cases hc : S.cell? i with
  | none => exact h
  | some c =>
    dsimp only
    repeat' split
    all_goals first | exact h | exact h.put i _ ⟨c, hc⟩ ⟨x, rfl⟩
theorem Num.fill {S : M} (h : Num S) (i x : Int) : Num (S.fill i (.int .i64 x)).1 := by
  unfold M.fill
  cases hc : S.cell? i with
  | none => exact h
  | some c =>
    dsimp only
    repeat' split
    all_goals first | exact h | exact h.put i _ ⟨c, hc⟩ ⟨x, rfl⟩
theorem Num.new (n : Nat) : Num (C.M0 n) := fun i c hc => by
  obtain ⟨j, _, h, _⟩ := M.cell_in hc
  have : c ∈ (C.M0 n).C := List.mem_of_getElem? h
  unfold C.M0 at this
  rw [List.mem_replicate] at this
  exact ⟨0, by rw [this.2]⟩
theorem Num.read {S : M} (h : Num S) (X : TX) (i : Int) : Num (X.read S i).2.2.1 := by
  unfold TX.read
  repeat' split
  all_goals first | exact h | exact h.rel _
theorem Num.do1 {S : M} (h : Num S) (X : TX) (s : Stp) : Num (X.do1 S s).2.1 := by
  unfold TX.do1
  repeat' split
  all_goals first | exact h | exact h.lock _ _ | exact h.adv | exact h.publish _ _ _ _
theorem Num.fin {r : Int × M × TX} (h : Num r.2.1) (o : Int) (L : List Stp) : Num (TX.fin o L r).2.2.1 := by
  unfold TX.fin
  repeat' split
  all_goals first | exact h | exact h.rel _
theorem Num.step {S : M} (h : Num S) (X : TX) : Num (X.step S).2.2.1 := by
  unfold TX.step TX.go
  repeat' split
  all_goals first | exact h | exact (h.do1 _ _).fin _ _
theorem Num.abort {S : M} (h : Num S) (X : TX) : Num (X.abort S).2.1 := by
  unfold TX.abort
  split
  · exact h
  · exact h.rel _
theorem TX.Rdy.read {X : TX} (h : X.Rdy) (S : M) (i : Int) : (X.read S i).2.2.2.Rdy := by
  unfold TX.read
  repeat' split
  all_goals first | exact h | exact fun e => by simp [TX.fail] at e
theorem TX.Rdy.write {X : TX} (h : X.Rdy) (S : M) (i v : Int) : (X.write S i v).2.Rdy := by
  unfold TX.write
  repeat' split
  all_goals exact h
theorem TX.Rdy.mark {X : TX} (h : X.Rdy) : X.mark.2.Rdy := by unfold TX.mark; split <;> exact h
theorem TX.Rdy.keep {X : TX} (h : X.Rdy) : X.keep.2.Rdy := by unfold TX.keep; split <;> exact h
theorem TX.Rdy.undo {X : TX} (h : X.Rdy) : X.undo.2.Rdy := by unfold TX.undo; split <;> exact h
theorem TX.Rdy.abort {X : TX} (h : X.Rdy) (S : M) : (X.abort S).2.2.Rdy := by
  unfold TX.abort
  split
  · exact h
  · exact fun e => by simp [TX.fail] at e
theorem TX.Rdy.go {X : TX} (h : X.Rdy) (S : M) : (X.go S).2.2.2.Rdy := by
  unfold TX.go
  split
  · exact h
  · rename_i s L hl
    have hk := do1_keeps { X with left := L } S s
    unfold TX.fin
    split
    · exact fun e => by simp [TX.fail] at e
    · split
      · exact fun e => by simp at e
      · rename_i hL
        exact fun _ e => hL (by rw [hk.1] at e; simp at e; simp [e])
theorem TX.Rdy.step {X : TX} (h : X.Rdy) (S : M) : (X.step S).2.2.2.Rdy := by
  unfold TX.step
  split
  · exact h
  · split
    · exact TX.Rdy.go (fun _ => ends_ne X) S
    · exact h.go S

/-! ### transactions side by side -/
def upd {α : Type} (f : Nat → α) (j : Nat) (x : α) : Nat → α := fun i => if i = j then x else f i
theorem upd_same {α : Type} (f : Nat → α) (j : Nat) (x : α) : upd f j x j = x := if_pos rfl
theorem upd_other {α : Type} (f : Nat → α) {i j : Nat} (x : α) (h : i ≠ j) : upd f j x i = f i := if_neg h
structure Sit (w0 u : World) (m gm : Nat) (S : M) (n : Nat) (p : Nat → Nat) (X : Nat → TX) : Prop where
  mm : MM u w0.heap.size m gm S
  num : Num S
  bel : Below w0.heap.size w0 u
  rdy : ∀ j, j < n → (X j).Rdy
  tx : ∃ F : Nat → Nat → Prop, ∀ j, j < n → IsX u w0.heap.size (p j) m (X j) (F j) ∧ ¬ F j m ∧ ¬ F j gm ∧ ∀ i, i < n → i ≠ j → ∀ x, F j x → ¬ F i x
variable {w0 u u' : World} {m gm n : Nat} {S S' : M} {p : Nat → Nat} {X : Nat → TX}
theorem Sit.call {F : Nat → Nat → Prop} (h : Sit w0 u m gm S n p X) (hF : ∀ j, j < n → IsX u w0.heap.size (p j) m (X j) (F j) ∧ ¬ F j m ∧ ¬ F j gm ∧ ∀ i, i < n → i ≠ j → ∀ x, F j x → ¬ F i x) (j : Nat) (hj : j < n) {X' : TX} (ht : ToX u w0.heap.size (p j) m gm S' X' (F j) u') (hN : Num S') (hr : X'.Rdy) : Sit w0 u' m gm S' n p (upd X j X') := by
  refine ⟨ht.mm, hN, h.bel.trans ht.bel, fun i hi => ?_, upd F j (grow (F j) u u'), fun i hi => ?_⟩
  · by_cases e : i = j
    · subst e; rw [upd_same]; exact hr
    · rw [upd_other _ _ e]; exact h.rdy i hi
  · by_cases e : i = j
    · subst e
      rw [upd_same, upd_same]
      refine ⟨ht.tx, grow_not (hF i hi).2.1 h.mm.lt.1.2, grow_not (hF i hi).2.2.1 h.mm.lt.2.2, fun k hk hki x hx => ?_⟩
      rw [upd_other _ _ hki]
      intro hfk
      rcases hx with hx | hx
      · exact (hF i hi).2.2.2 k hk hki x hx hfk
      · have := ((hF k hk).1.fB x hfk).2
        omega
    · rw [upd_other _ _ e, upd_other _ _ e]
      refine ⟨(hF i hi).1.upd ht.upd (fun x hx hn => ?_), (hF i hi).2.1, (hF i hi).2.2.1, fun k hk hki x hx => ?_⟩
      · rcases hn with hn | rfl | rfl
        · exact (hF j hj).2.2.2 i hi e x hn hx
        · exact (hF i hi).2.1 hx
        · exact (hF i hi).2.2.1 hx
      · by_cases ek : k = j
        · subst ek
          rw [upd_same]
          intro hg
          rcases hg with hg | hg
          · exact (hF i hi).2.2.2 k hk hki x hx hg
          · have := ((hF i hi).1.fB x hx).2
            omega
        · rw [upd_other _ _ ek]
          exact (hF i hi).2.2.2 k hk hki x hx
theorem Sit.below (h : Sit w0 u m gm S n p X) (hb : Below u.heap.size u u') : Sit w0 u' m gm S n p X := by
  obtain ⟨F, hF⟩ := h.tx
  exact ⟨h.mm.below hb, h.num, h.bel.trans (hb.mono h.mm.hB), h.rdy, F, fun j hj => ⟨(hF j hj).1.below hb, (hF j hj).2⟩⟩
theorem Sit.drew (h : Sit w0 u m gm S n p X) (q : Nat) : Sit w0 (u.drewN q) m gm S n p X := h.below ⟨rfl, rfl, rfl, Nat.le_refl _, fun _ _ => rfl⟩
theorem Sit.alloc (h : Sit w0 u m gm S n p X) (o : Obj) : Sit w0 (u.alloc o) m gm S n p X := h.below ((Below.refl _ _).alloc (Nat.le_refl _) o)
theorem Sit.read (h : Sit w0 u m gm S n p X) (j : Nat) (hj : j < n) (i : Int) (hi : (Lit.int .i64 i).wf = true) : Calls Try.prog 31 #[ptr (p j), .int .i64 i] u fun r u' => r = .returned (.tuple #[.int .i64 ((X j).read S i).1, .int .i64 ((X j).read S i).2.1]) ∧ Sit w0 u' m gm ((X j).read S i).2.2.1 n p (upd X j ((X j).read S i).2.2.2) := by
  obtain ⟨F, hF⟩ := h.tx
  exact (read_at h.mm (hF j hj).1 (hF j hj).2.1 (hF j hj).2.2.1 h.num i hi).mono fun r u' ⟨e, ht⟩ => ⟨e, h.call hF j hj ht (h.num.read _ _) ((h.rdy j hj).read _ _)⟩
theorem Sit.write (h : Sit w0 u m gm S n p X) (j : Nat) (hj : j < n) (i v : Int) : Calls Try.prog 35 #[ptr (p j), .int .i64 i, .int .i64 v] u fun r u' => r = .returned (.int .i64 ((X j).write S i v).1) ∧ Sit w0 u' m gm S n p (upd X j ((X j).write S i v).2) := by
  obtain ⟨F, hF⟩ := h.tx
  exact (write_at h.mm (hF j hj).1 (hF j hj).2.1 (hF j hj).2.2.1 i v).mono fun r u' ⟨e, ht⟩ => ⟨e, h.call hF j hj ht h.num ((h.rdy j hj).write _ _ _)⟩
theorem Sit.step (h : Sit w0 u m gm S n p X) (j : Nat) (hj : j < n) : Calls Try.prog 32 #[ptr (p j)] u fun r u' => r = .returned (.tuple #[.int .u8 ((X j).step S).1, .int .i64 ((X j).step S).2.1]) ∧ Sit w0 u' m gm ((X j).step S).2.2.1 n p (upd X j ((X j).step S).2.2.2) := by
  obtain ⟨F, hF⟩ := h.tx
  exact (step_at h.mm (hF j hj).1 (hF j hj).2.1 (hF j hj).2.2.1 h.num (h.rdy j hj)).mono fun r u' ⟨e, ht⟩ => ⟨e, h.call hF j hj ht (h.num.step _) ((h.rdy j hj).step _)⟩
theorem Sit.abort (h : Sit w0 u m gm S n p X) (j : Nat) (hj : j < n) : Calls Try.prog 39 #[ptr (p j)] u fun r u' => r = .returned (.int .i64 ((X j).abort S).1) ∧ Sit w0 u' m gm ((X j).abort S).2.1 n p (upd X j ((X j).abort S).2.2) := by
  obtain ⟨F, hF⟩ := h.tx
  exact (abort_at h.mm (hF j hj).1 (hF j hj).2.1 (hF j hj).2.2.1).mono fun r u' ⟨e, ht⟩ => ⟨e, h.call hF j hj ht (h.num.abort _) ((h.rdy j hj).abort _)⟩
theorem Sit.mark (h : Sit w0 u m gm S n p X) (j : Nat) (hj : j < n) : Calls Try.prog 36 #[ptr (p j)] u fun r u' => r = .returned (.int .i64 (X j).mark.1) ∧ Sit w0 u' m gm S n p (upd X j (X j).mark.2) := by
  obtain ⟨F, hF⟩ := h.tx
  exact (mark_at h.mm (hF j hj).1 (hF j hj).2.1 (hF j hj).2.2.1).mono fun r u' ⟨e, ht⟩ => ⟨e, h.call hF j hj ht h.num (h.rdy j hj).mark⟩
theorem Sit.keep (h : Sit w0 u m gm S n p X) (j : Nat) (hj : j < n) : Calls Try.prog 37 #[ptr (p j)] u fun r u' => r = .returned (.int .i64 (X j).keep.1) ∧ Sit w0 u' m gm S n p (upd X j (X j).keep.2) := by
  obtain ⟨F, hF⟩ := h.tx
  exact (keep_at h.mm (hF j hj).1 (hF j hj).2.1 (hF j hj).2.2.1).mono fun r u' ⟨e, ht⟩ => ⟨e, h.call hF j hj ht h.num (h.rdy j hj).keep⟩
theorem Sit.undo (h : Sit w0 u m gm S n p X) (j : Nat) (hj : j < n) : Calls Try.prog 38 #[ptr (p j)] u fun r u' => r = .returned (.int .i64 (X j).undo.1) ∧ Sit w0 u' m gm S n p (upd X j (X j).undo.2) := by
  obtain ⟨F, hF⟩ := h.tx
  exact (undo_at h.mm (hF j hj).1 (hF j hj).2.1 (hF j hj).2.2.1).mono fun r u' ⟨e, ht⟩ => ⟨e, h.call hF j hj ht h.num (h.rdy j hj).undo⟩
theorem Sit.status (h : Sit w0 u m gm S n p X) (j : Nat) (hj : j < n) : Calls Try.prog 40 #[ptr (p j)] u fun r u' => r = .returned (.int .u8 (X j).st) ∧ u' = u := by
  obtain ⟨F, hF⟩ := h.tx
  exact status_at (hF j hj).1
theorem Sit.version (h : Sit w0 u m gm S n p X) (j : Nat) (hj : j < n) : Calls Try.prog 44 #[ptr (p j)] u fun r u' => r = .returned (.int .i64 (if (X j).st = 3 then (X j).ver else 0)) ∧ u' = u := by
  obtain ⟨F, hF⟩ := h.tx
  exact version_at (hF j hj).1
/-- one more begins -/
theorem Sit.begin (h : Sit w0 u m gm S n p X) (o : Int) (ho : 1 ≤ o) (ho2 : o < 9223372036854775808) : Calls Try.prog 29 #[ptr m, .int .i64 o] u fun r u' => ∃ g, r = .returned (.tuple #[ptr g, .int .i64 0]) ∧ Sit w0 u' m gm S (n + 1) (upd p n g) (upd X n (X0 o S.k)) := by
  obtain ⟨F, hF⟩ := h.tx
  refine (begin_at h.mm o ho ho2).mono fun r u' ⟨g, e, hx, hb⟩ => ⟨g, e, ?_⟩
  have hB := h.mm.hB
  refine ⟨h.mm.below hb, h.num, h.bel.trans (hb.mono hB), fun i hi => ?_, upd F n (fun x => u.heap.size ≤ x ∧ x < u'.heap.size), fun i hi => ?_⟩
  · by_cases e : i = n
    · subst e; rw [upd_same]; exact fun e => by simp [X0] at e
    · rw [upd_other _ _ e]; exact h.rdy i (by omega)
  · by_cases e : i = n
    · subst e
      rw [upd_same, upd_same, upd_same]
      obtain ⟨s, lv, P, Q, hT⟩ := hx
      have hT' : IsT u' w0.heap.size g m (X0 o S.k) (fun x => u.heap.size ≤ x ∧ x < u'.heap.size) s lv P Q := { hT with sets := T.IsS.base hT.sets hB, fB := fun x hx => ⟨Nat.le_trans hB hx.1, hx.2⟩ }
      refine ⟨⟨s, lv, P, Q, hT'⟩, fun e => ?_, fun e => ?_, fun k hk hki x hx => ?_⟩
      · have := h.mm.lt.1.2; omega
      · have := h.mm.lt.2.2; omega
      · rw [upd_other _ _ hki]
        intro hf
        have := ((hF k (by omega)).1.fB x hf).2
        omega
    · have hi' : i < n := by omega
      rw [upd_other _ _ e, upd_other _ _ e, upd_other _ _ e]
      refine ⟨(hF i hi').1.below hb, (hF i hi').2.1, (hF i hi').2.2.1, fun k hk hki x hx => ?_⟩
      by_cases ek : k = n
      · subst ek
        rw [upd_same]
        intro hf
        have := ((hF i hi').1.fB x hx).2
        omega
      · rw [upd_other _ _ ek]
        exact (hF i hi').2.2.2 k (by omega) hki x hx
theorem Sit.none {w : World} {B m gm : Nat} (h : MM w B m gm S) (hN : Num S) {w0 : World} (hB : B = w0.heap.size) (hb : Below w0.heap.size w0 w) (p : Nat → Nat) (X : Nat → TX) : Sit w0 w m gm S 0 p X := by
  subst hB
  exact ⟨h, hN, hb, fun j hj => by omega, fun _ _ => False, fun j hj => by omega⟩
end Go.Proofs.Ytdneikfocefnfaa.T
