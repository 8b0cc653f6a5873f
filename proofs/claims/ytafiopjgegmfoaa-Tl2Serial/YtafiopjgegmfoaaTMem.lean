/-
  A transaction in memory: its nine cells, its sets, the steps that are left of its end.
-/
import Derived.Test.YtafiopjgegmfoaaTPlain
import Derived.Test.YtafiopjgegmfoaaNew
namespace Go.Proofs.Ytafiopjgegmfoaa.T
open Go.RowKit Go.Proofs.Ytafiopjgegmfoaa.C

/-! ### the memory, its two blocks told by number -/
structure MM (w : World) (B m gm : Nat) (S : M) : Prop where
  is : C.IsM 65 81 w B m S
  at1 : ∃ n c, w.cell? ⟨m, 1, none⟩ = some (.slice (some ⟨gm, 0, none⟩) n c)
theorem MM.row {w : World} {B m gm : Nat} {S : M} (h : MM w B m gm S) : B ≤ gm ∧ Box w m #[ptr m, .slice (some ⟨gm, 0, none⟩) S.C.length S.C.length, .int .i64 S.k] 65 ∧ Row 81 w gm S.C := by
  obtain ⟨g, hg, hb, hr⟩ := h.is.row
  obtain ⟨n, c, e⟩ := h.at1
  have e1 : some (Value.slice (some ⟨g, 0, none⟩) S.C.length S.C.length) = some (.slice (some ⟨gm, 0, none⟩) n c) := (hb.cell 1).symm.trans e
  injection e1 with e1
  injection e1 with e1
  injection e1 with e1
  injection e1 with e1
  subst e1
  exact ⟨hg, hb, hr⟩
theorem MM.of {w : World} {B m : Nat} {S : M} (h : C.IsM 65 81 w B m S) : ∃ gm, MM w B m gm S := by
  obtain ⟨g, hg, hb, hr⟩ := h.row
  exact ⟨g, h, _, _, hb.cell 1⟩
theorem MM.stay {w w' : World} {B m gm : Nat} {S : M} (h : MM w B m gm S) (h1 : w'.heap[m]? = w.heap[m]?) (h2 : w'.heap[gm]? = w.heap[gm]?) : MM w' B m gm S := by
  obtain ⟨hg, hb, hr⟩ := h.row
  have hb' : Box w' m #[ptr m, .slice (some ⟨gm, 0, none⟩) S.C.length S.C.length, .int .i64 S.k] 65 := h1.trans hb
  have hr' : Row 81 w' gm S.C := h2.trans hr
  exact ⟨⟨h.is.hm, h.is.rt, gm, hg, hb', hr'⟩, _, _, hb'.cell 1⟩
theorem MM.lt {w : World} {B m gm : Nat} {S : M} (h : MM w B m gm S) : (B ≤ m ∧ m < w.heap.size) ∧ (B ≤ gm ∧ gm < w.heap.size) := by
  obtain ⟨hg, hb, hr⟩ := h.row
  exact ⟨⟨h.is.hm, hb.lt⟩, ⟨hg, Box.lt hr⟩⟩
theorem MM.below {w w' : World} {B m gm : Nat} {S : M} (h : MM w B m gm S) (hb : Below w.heap.size w w') : MM w' B m gm S :=
  h.stay (hb.block m h.lt.1.2) (hb.block gm h.lt.2.2)
theorem MM.to {w w' : World} {B m gm : Nat} {S S' : M} (h : MM w B m gm S) (ht : C.To 65 81 w B m S' w') : MM w' B m gm S' ∧ Upd (fun k => k = m ∨ k = gm) w w' := by
  obtain ⟨n, c, e⟩ := h.at1
  obtain ⟨e', hk⟩ := ht.up _ _ _ e
  exact ⟨⟨ht.is, n, c, e'⟩, ht.bel.size, fun k hk1 hk2 => hk k hk1 (fun e => hk2 (.inl e)) (fun e => hk2 (.inr e))⟩

/-! ### the steps that are left -/
/-- v is the closure that does that step of the transaction at g; Q: its blocks -/
def IsStp (w : World) (Q : Nat → Prop) (g : Nat) (v : Value) (s : Stp) : Prop :=
  ∃ tb, Q tb ∧ Box w tb #[ptr g] 42 ∧ match s with
  | .stay => v = .func (.func 41) #[] #[ptr tb]
  | .adv => v = .func (.func 45) #[] #[ptr tb]
  | .lock i => ∃ ib, Q ib ∧ Box w ib #[.int .i64 i] 3 ∧ v = .func (.func 43) #[] #[ptr tb, ptr ib]
  | .look i => ∃ ib, Q ib ∧ Box w ib #[.int .i64 i] 3 ∧ v = .func (.func 48) #[] #[ptr tb, ptr ib]
  | .pub i => ∃ ib, Q ib ∧ Box w ib #[.int .i64 i] 3 ∧ v = .func (.func 50) #[] #[ptr tb, ptr ib]
theorem IsStp.stay {w w' : World} {Q Q' : Nat → Prop} {g : Nat} {v : Value} {s : Stp} (h : IsStp w Q g v s) (hQ : ∀ x, Q x → Q' x) (hs : ∀ x cs t, Q x → Box w x cs t → t ≠ 71 → Box w' x cs t) : IsStp w' Q' g v s := by
  obtain ⟨tb, q, b, h⟩ := h
  refine ⟨tb, hQ _ q, hs _ _ _ q b (by decide), ?_⟩
  cases s with
  | stay => exact h
  | adv => exact h
  | lock i => obtain ⟨ib, q, b, h⟩ := h; exact ⟨ib, hQ _ q, hs _ _ _ q b (by decide), h⟩
  | look i => obtain ⟨ib, q, b, h⟩ := h; exact ⟨ib, hQ _ q, hs _ _ _ q b (by decide), h⟩
  | pub i => obtain ⟨ib, q, b, h⟩ := h; exact ⟨ib, hQ _ q, hs _ _ _ q b (by decide), h⟩
def LeftAt (w : World) (Q : Nat → Prop) (g : Nat) (lv : Value) (L : List Stp) : Prop :=
  ∃ a c, lv = .slice a L.length c ∧ L.length ≤ c ∧ ∀ j (hj : j < L.length), ∃ lb off cs v, a = some ⟨lb, off, none⟩ ∧ Q lb ∧ Box w lb cs 56 ∧ cs[off + j]? = some v ∧ IsStp w Q g v L[j]
theorem LeftAt.stay {w w' : World} {Q Q' : Nat → Prop} {g : Nat} {lv : Value} {L : List Stp} (h : LeftAt w Q g lv L) (hQ : ∀ x, Q x → Q' x) (hs : ∀ x cs t, Q x → Box w x cs t → t ≠ 71 → Box w' x cs t) : LeftAt w' Q' g lv L := by
  obtain ⟨a, c, e, hc, h⟩ := h
  refine ⟨a, c, e, hc, fun j hj => ?_⟩
  obtain ⟨lb, off, cs, v, e, q, b, hv, hp⟩ := h j hj
  exact ⟨lb, off, cs, v, e, hQ _ q, hs _ _ _ q b (by decide), hv, hp.stay hQ hs⟩
theorem LeftAt.nil (w : World) (Q : Nat → Prop) (g : Nat) (a : Option Addr) (c : Nat) : LeftAt w Q g (.slice a 0 c) [] := ⟨a, c, rfl, Nat.zero_le _, fun j hj => by simp at hj⟩

/-! ### a transaction -/
def cells (g m s : Nat) (lv : Value) (X : TX) : Array Value := #[ptr g, ptr m, .int .i64 X.own, .int .i64 X.beg, ptr s, .int .u8 X.st, lv, .int .i64 X.ver, .bool X.pub]
structure IsT (w : World) (B g m : Nat) (X : TX) (F : Nat → Prop) (s : Nat) (lv : Value) (P Q : Nat → Prop) : Prop where
  box : Box w g (cells g m s lv X) 71
  sets : IsS encI 85 30 w B s X.S P
  left : LeftAt w Q g lv X.left
  ok : X.Ok
  qg : Q g
  pq : ∀ x, P x → ¬ Q x
  fF : ∀ x, F x ↔ P x ∨ Q x
  fB : ∀ x, F x → B ≤ x ∧ x < w.heap.size
def IsX (w : World) (B g m : Nat) (X : TX) (F : Nat → Prop) : Prop := ∃ s lv P Q, IsT w B g m X F s lv P Q
theorem IsT.stay {w w' : World} {B g m : Nat} {X : TX} {F : Nat → Prop} {s : Nat} {lv : Value} {P Q : Nat → Prop} (h : IsT w B g m X F s lv P Q) (hs : w.heap.size ≤ w'.heap.size) (hF : ∀ x, F x → w'.heap[x]? = w.heap[x]?) : IsT w' B g m X F s lv P Q :=
  { h with
    box := (hF g ((h.fF g).2 (.inr h.qg))).trans h.box
    sets := h.sets.stay hs (fun x hx => hF x ((h.fF x).2 (.inl hx)))
    left := h.left.stay (fun _ q => q) (fun x _ _ q b _ => (hF x ((h.fF x).2 (.inr q))).trans b)
    fB := fun x hx => ⟨(h.fB x hx).1, Nat.lt_of_lt_of_le (h.fB x hx).2 hs⟩ }
theorem IsX.stay {w w' : World} {B g m : Nat} {X : TX} {F : Nat → Prop} (h : IsX w B g m X F) (hs : w.heap.size ≤ w'.heap.size) (hF : ∀ x, F x → w'.heap[x]? = w.heap[x]?) : IsX w' B g m X F := by
  obtain ⟨s, lv, P, Q, h⟩ := h
  exact ⟨s, lv, P, Q, h.stay hs hF⟩
theorem IsX.fB {w : World} {B g m : Nat} {X : TX} {F : Nat → Prop} (h : IsX w B g m X F) : ∀ x, F x → B ≤ x ∧ x < w.heap.size := by
  obtain ⟨s, lv, P, Q, h⟩ := h
  exact h.fB
theorem IsX.upd {w w' : World} {B g m : Nat} {X : TX} {F F' : Nat → Prop} (h : IsX w B g m X F) (hu : Upd F' w w') (hF : ∀ x, F x → ¬ F' x) : IsX w' B g m X F :=
  h.stay hu.1 (fun x hx => hu.2 x (h.fB x hx).2 (hF x hx))
theorem IsX.below {w w' : World} {B g m : Nat} {X : TX} {F : Nat → Prop} (h : IsX w B g m X F) (hb : Below w.heap.size w w') : IsX w' B g m X F :=
  h.stay hb.size (fun x hx => hb.block x (h.fB x hx).2)
theorem IsX.ok {w : World} {B g m : Nat} {X : TX} {F : Nat → Prop} (h : IsX w B g m X F) : X.Ok := by
  obtain ⟨s, lv, P, Q, h⟩ := h
  exact h.ok
theorem IsX.fg {w : World} {B g m : Nat} {X : TX} {F : Nat → Prop} (h : IsX w B g m X F) : F g := by
  obtain ⟨s, lv, P, Q, h⟩ := h
  exact (h.fF g).2 (.inr h.qg)
/-- more blocks of one's own -/
theorem IsT.wide {w : World} {B g m : Nat} {X : TX} {F F' : Nat → Prop} {s : Nat} {lv : Value} {P Q : Nat → Prop} (h : IsT w B g m X F s lv P Q) (hF : ∀ x, F x → F' x) (hB : ∀ x, F' x → B ≤ x ∧ x < w.heap.size) : IsT w B g m X F' s lv P (fun x => F' x ∧ ¬ P x) :=
  { h with
    left := h.left.stay (fun x q => ⟨hF x ((h.fF x).2 (.inr q)), fun p => h.pq x p q⟩) (fun _ _ _ _ b _ => b)
    qg := ⟨hF g ((h.fF g).2 (.inr h.qg)), fun p => h.pq g p h.qg⟩
    pq := fun _ p q => q.2 p
    fF := fun x => ⟨fun f => (Classical.em (P x)).elim .inl (fun np => .inr ⟨f, np⟩), fun h' => h'.elim (fun p => hF x ((h.fF x).2 (.inl p))) (fun q => q.1)⟩
    fB := hB }
theorem IsX.wide {w : World} {B g m : Nat} {X : TX} {F F' : Nat → Prop} (h : IsX w B g m X F) (hF : ∀ x, F x → F' x) (hB : ∀ x, F' x → B ≤ x ∧ x < w.heap.size) : IsX w B g m X F' := by
  obtain ⟨s, lv, P, Q, h⟩ := h
  exact ⟨s, lv, P, _, h.wide hF hB⟩
/-- what a call leaves -/
structure ToX (w : World) (B g m gm : Nat) (S : M) (X : TX) (F : Nat → Prop) (w' : World) : Prop where
  mm : MM w' B m gm S
  tx : IsX w' B g m X (grow F w w')
  bel : Below B w w'
  upd : Upd (fun k => F k ∨ k = m ∨ k = gm) w w'
theorem MM.hB {w : World} {B m gm : Nat} {S : M} (h : MM w B m gm S) : B ≤ w.heap.size := h.is.hB
theorem ToX.refl {w : World} {B g m gm : Nat} {S : M} {X : TX} {F : Nat → Prop} (h : MM w B m gm S) (hx : IsX w B g m X F) : ToX w B g m gm S X F w :=
  ⟨h, hx.wide (fun _ hx => .inl hx) (grow_lt hx.fB h.hB (Nat.le_refl _)), Below.refl _ _, Upd.refl _ _⟩
theorem ToX.drew {w w' : World} {B g m gm : Nat} {S : M} {X : TX} {F : Nat → Prop} (h : ToX w B g m gm S X F w') (q : Nat) : ToX w B g m gm S X F (w'.drewN q) :=
  ⟨h.mm.stay rfl rfl, h.tx.stay (Nat.le_refl _) (fun _ _ => rfl), ⟨h.bel.os, h.bel.tape, h.bel.output, h.bel.size, h.bel.block⟩, h.upd⟩
theorem grow_trans {F : Nat → Prop} {w w1 w2 : World} (h1 : w.heap.size ≤ w1.heap.size) (h2 : w1.heap.size ≤ w2.heap.size) (x : Nat) : grow (grow F w w1) w1 w2 x ↔ grow F w w2 x := by
  unfold grow
  constructor
  · rintro ((h | h) | h)
    · exact .inl h
    · exact .inr (by omega)
    · exact .inr (by omega)
  · rintro (h | h)
    · exact .inl (.inl h)
    · by_cases e : x < w1.heap.size
      · exact .inl (.inr (by omega))
      · exact .inr (by omega)
theorem ToX.trans {w w1 w2 : World} {B g m gm : Nat} {S1 S2 : M} {X1 X2 : TX} {F : Nat → Prop} (h : ToX w B g m gm S1 X1 F w1) (k : ToX w1 B g m gm S2 X2 (grow F w w1) w2) : ToX w B g m gm S2 X2 F w2 :=
  ⟨k.mm, k.tx.wide (fun x hx => (grow_trans h.upd.1 k.upd.1 x).1 hx) (fun x hx => k.tx.fB x ((grow_trans h.upd.1 k.upd.1 x).2 hx)), h.bel.trans k.bel, h.upd.trans k.upd (fun x hx => by
    rcases hx with (hx | hx) | hx
    · exact .inl (.inl hx)
    · exact .inr hx.1
    · exact .inl (.inr hx))⟩
theorem ToX.base {w w1 w2 : World} {B g m gm : Nat} {S : M} {X : TX} {F : Nat → Prop} (hb : Below w.heap.size w w1) (hB : B ≤ w.heap.size) (k : ToX w1 B g m gm S X F w2) : ToX w B g m gm S X F w2 :=
  ⟨k.mm, k.tx.wide (fun x hx => hx.imp id (fun h => ⟨Nat.le_trans hb.size h.1, h.2⟩)) (fun x hx => by
    rcases hx with hx | hx
    · exact k.tx.fB x (.inl hx)
    · exact ⟨Nat.le_trans hB hx.1, hx.2⟩), (Below.mono hb hB).trans k.bel, Nat.le_trans hb.size k.upd.1, fun x hx hn => (k.upd.2 x (Nat.lt_of_lt_of_le hx hb.size) hn).trans (hb.block x hx)⟩
end Go.Proofs.Ytafiopjgegmfoaa.T
