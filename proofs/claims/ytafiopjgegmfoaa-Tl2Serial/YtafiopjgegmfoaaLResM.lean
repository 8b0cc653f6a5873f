/-
  Histories in memory. What 'lived' has in memory: four transactions at a time, their histories, the row of all histories. 'lived': a transaction begins anew, with a history of its own. 'lived': what is set down in a history. 'lived': the four transactions and the histories, plainly, beside what lies in memory. 'lived': its beginning. 'lived': what each kind of call leaves. 'lived': its end: who has not published fails, the others go on to their end. Pick. 'lived': its end, in memory. 'lived': what it answers.
-/
import Derived.Test.YtafiopjgegmfoaaTLifeM
import Derived.Test.YtafiopjgegmfoaaNHasM
import Derived.Deep.RegionLaw
import Derived.Deep.AppendLies
namespace Go.Proofs.Ytafiopjgegmfoaa.T
open Go.RowKit Go.Proofs.Ytafiopjgegmfoaa.C
/-- where a history lies: its own cells, its map, its row of reads -/
structure HB where
  h : Nat
  mb : Nat
  rv : Value
def HB.has (b : HB) (y : Nat) : Prop := y = b.h ∨ y = b.mb ∨ b.rv.ownBlock = some y
def rcs (l : List (Int × Int)) : List Value := l.flatMap fun p => [.int .i64 p.1, .int .i64 p.2]
theorem rcs_snoc (l : List (Int × Int)) (p : Int × Int) : rcs (l ++ [p]) = rcs l ++ [.int .i64 p.1, .int .i64 p.2] := by simp [rcs]
theorem rcs_len (l : List (Int × Int)) : (rcs l).length = l.length * 2 := by
  induction l with
  | nil => rfl
  | cons p l ih => simp [rcs] at ih ⊢; omega
def hcs (b : HB) (H : Hs) : Array Value := #[.int .i64 H.beg, .int .i64 H.ver, b.rv, .map (some b.mb), .bool H.done]
structure OneH (u : World) (B : Nat) (b : HB) (H : Hs) : Prop where
  box : Box u b.h (hcs b H) 32
  mp : MapL encI u b.mb H.wr
  row : u.ownsRow B 35 2 b.rv H.rd.length (rcs H.rd)
  lo : B ≤ b.h ∧ B ≤ b.mb
theorem OneH.lt {u : World} {B : Nat} {b : HB} {H : Hs} (h : OneH u B b H) : ∀ y, b.has y → B ≤ y ∧ y < u.heap.size := fun y hy => by
  rcases hy with rfl | rfl | hy
  · exact ⟨h.lo.1, h.box.lt⟩
  · exact ⟨h.lo.2, h.mp.lt⟩
  · exact ⟨(h.row.lt y hy).1, by obtain ⟨cs, hb⟩ := ownsRow_box h.row y hy; exact Box.lt hb⟩
theorem OneH.stay {u u' : World} {B : Nat} {b : HB} {H : Hs} (h : OneH u B b H) (hs : ∀ y, b.has y → u'.heap[y]? = u.heap[y]?) : OneH u' B b H := by
  refine ⟨(hs _ (.inl rfl)).trans h.box, h.mp.stay (hs _ (.inr (.inl rfl))), ⟨h.row.1, ?_⟩, h.lo⟩
  rcases h.row.2 with h1 | ⟨g, cap, cur, e, hb, hg, r⟩
  · exact .inl h1
  · exact .inr ⟨g, cap, cur, e, hb, (hs g (.inr (.inr (by rw [e]; rfl)))).trans hg, r⟩
structure Hm (u : World) (B : Nat) (G : Nat → Prop) (P : List HB) (A : List Hs) : Prop where
  len : P.length = A.length
  one : ∀ (a : Nat) b H, P[a]? = some b → A[a]? = some H → OneH u B b H ∧ ∀ y, b.has y → ¬ G y
  apart : ∀ (a a' : Nat) b b', P[a]? = some b → P[a']? = some b' → a ≠ a' → ∀ y, b.has y → ¬ b'.has y
section
variable {u u' : World} {B a : Nat} {G G' F : Nat → Prop} {P : List HB} {A : List Hs} {b b' : HB} {H H' : Hs}
theorem Hm.hist (h : Hm u B G P A) (hp : P[a]? = some b) : ∃ H, A[a]? = some H := by
  have := (List.getElem?_eq_some_iff.1 hp).1
  exact ⟨_, List.getElem?_eq_getElem (by rw [← h.len]; exact this)⟩
theorem Hm.at (h : Hm u B G P A) (ha : A[a]? = some H) : ∃ b, P[a]? = some b ∧ OneH u B b H ∧ ∀ y, b.has y → ¬ G y := by
  have := (List.getElem?_eq_some_iff.1 ha).1
  have hp : P[a]? = some (P[a]'(by rw [h.len]; exact this)) := List.getElem?_eq_getElem (by rw [h.len]; exact this)
  exact ⟨_, hp, h.one a _ H hp ha⟩
/-- other blocks have changed -/
theorem Hm.upd (h : Hm u B G P A) (hu : Upd F u u') (hF : ∀ (a : Nat) b, P[a]? = some b → ∀ y, b.has y → ¬ F y) (hG : ∀ y, G' y → G y ∨ u.heap.size ≤ y) : Hm u' B G' P A := by
  refine ⟨h.len, fun a b H hp ha => ?_, h.apart⟩
  obtain ⟨o, g⟩ := h.one a b H hp ha
  refine ⟨o.stay (fun y hy => hu.2 y (o.lt y hy).2 (hF a b hp y hy)), fun y hy hg => ?_⟩
  rcases hG y hg with hg | hg
  · exact g y hy hg
  · have := (o.lt y hy).2; omega
theorem Hm.to (h : Hm u B G P A) (hu : Upd (fun y => G y ∨ False) u u') (hG : ∀ y, G' y → G y ∨ u.heap.size ≤ y) : Hm u' B G' P A := h.upd hu (fun a b hp y hy hf => by
  obtain ⟨H, ha⟩ := h.hist hp
  exact hf.elim ((h.one a b H hp ha).2 y hy) id) hG
theorem Hm.below (h : Hm u B G P A) (hb : Below u.heap.size u u') : Hm u' B G P A := h.upd (F := fun _ => False) ⟨hb.size, fun k hk _ => hb.block k hk⟩ (fun _ _ _ _ _ hf => hf) (fun _ hy => .inl hy)
/-- one of them has changed: none but its own blocks and new ones -/
theorem Hm.turn (h : Hm u B G P A) (hp : P[a]? = some b) (hu : Upd b.has u u') (ho : OneH u' B b' H') (hb : ∀ y, b'.has y → b.has y ∨ u.heap.size ≤ y) (hG : ∀ y, G y → y < u.heap.size) : Hm u' B G (P.set a b') (A.set a H') := by
  have hl : a < P.length := (List.getElem?_eq_some_iff.1 hp).1
  obtain ⟨H0, ha0⟩ := h.hist hp
  obtain ⟨o0, g0⟩ := h.one a b H0 hp ha0
  refine ⟨by simp [h.len], fun i c K hi hk => ?_, fun i i' c c' hi hi' hne y hy => ?_⟩
  · rw [List.getElem?_set] at hi hk
    by_cases e : a = i
    · subst e
      rw [if_pos rfl, if_pos hl] at hi
      rw [if_pos rfl, if_pos (by rw [← h.len]; exact hl)] at hk
      injection hi with hi
      injection hk with hk
      subst hi hk
      refine ⟨ho, fun y hy hg => ?_⟩
      rcases hb y hy with h1 | h1
      · exact g0 y h1 hg
      · have := hG y hg; omega
    · rw [if_neg e] at hi hk
      obtain ⟨o, g⟩ := h.one i c K hi hk
      exact ⟨o.stay (fun y hy => hu.2 y (o.lt y hy).2 (fun hx => h.apart i a c b hi hp (fun e' => e e'.symm) y hy hx)), g⟩
  · rw [List.getElem?_set] at hi hi'
    by_cases e : a = i
    · subst e
      rw [if_pos rfl, if_pos hl] at hi
      injection hi with hi
      subst hi
      rw [if_neg hne] at hi'
      obtain ⟨K, hk⟩ := h.hist hi'
      rcases hb y hy with h1 | h1
      · exact h.apart a i' b c' hp hi' hne y h1
      · intro h2
        have := ((h.one i' c' K hi' hk).1.lt y h2).2
        omega
    · rw [if_neg e] at hi
      by_cases e' : a = i'
      · subst e'
        rw [if_pos rfl, if_pos hl] at hi'
        injection hi' with hi'
        subst hi'
        intro h2
        rcases hb y h2 with h1 | h1
        · exact h.apart i a c b hi hp hne y hy h1
        · obtain ⟨K, hk⟩ := h.hist hi
          have := ((h.one i c K hi hk).1.lt y hy).2
          omega
      · rw [if_neg e'] at hi'
        exact h.apart i i' c c' hi hi' hne y hy
/-- one more -/
theorem Hm.add (h : Hm u B G P A) (hb : Below u.heap.size u u') (ho : OneH u' B b H) (hn : ∀ y, b.has y → u.heap.size ≤ y) (hG : ∀ y, G y → y < u.heap.size) : Hm u' B G (P ++ [b]) (A ++ [H]) := by
  have h' := h.below hb
  have hl := h.len
  refine ⟨by simp [hl], fun i c K hi hk => ?_, fun i i' c c' hi hi' hne y hy => ?_⟩
  · by_cases e : i < P.length
    · rw [List.getElem?_append_left e] at hi
      rw [List.getElem?_append_left (by omega)] at hk
      exact h'.one i c K hi hk
    · rw [List.getElem?_append_right (by omega)] at hi hk
      have e0 : i - P.length = 0 := by
        have := (List.getElem?_eq_some_iff.1 hi).1
        simp at this
        omega
      rw [e0] at hi
      rw [show i - A.length = 0 by omega] at hk
      simp at hi hk
      subst hi hk
      exact ⟨ho, fun y hy hg => by have := hn y hy; have := hG y hg; omega⟩
  · have old : ∀ {i : Nat} {c : HB}, P[i]? = some c → ∀ y, c.has y → y < u.heap.size := fun hi y hy => by
      obtain ⟨K, hk⟩ := h.hist hi
      exact ((h.one _ _ K hi hk).1.lt y hy).2
    have sel : ∀ {i : Nat} {c : HB}, (P ++ [b])[i]? = some c → P[i]? = some c ∨ i = P.length ∧ c = b := fun {i c} hi => by
      by_cases e : i < P.length
      · rw [List.getElem?_append_left e] at hi
        exact .inl hi
      · rw [List.getElem?_append_right (by omega)] at hi
        have := (List.getElem?_eq_some_iff.1 hi).1
        simp at this
        rw [show i - P.length = 0 by omega] at hi
        simp at hi
        exact .inr ⟨by omega, hi.symm⟩
    rcases sel hi with h1 | ⟨h1, rfl⟩
    · rcases sel hi' with h2 | ⟨h2, rfl⟩
      · exact h.apart i i' c c' h1 h2 hne y hy
      · intro hx
        have := old h1 y hy
        have := hn y hx
        omega
    · rcases sel hi' with h2 | ⟨h2, _⟩
      · intro hx
        have := old h2 y hx
        have := hn y hy
        omega
      · omega
end
end Go.Proofs.Ytafiopjgegmfoaa.T
namespace Go.Proofs.Ytafiopjgegmfoaa.T
open Go.RowKit Go.Proofs.Ytafiopjgegmfoaa.C
theorem box_upd {u u' : World} {F : Nat → Prop} {k : Nat} {cs : Array Value} {t : TypeId} (h : Box u k cs t) (hu : Upd F u u') (hk : ¬ F k) : Box u' k cs t := (hu.2 k (Box.lt h) hk).trans h
/-- the law's variables -/
structure LP where
  m : Nat
  gm : Nat
  mx : Nat
  tb : Nat
  hb : Nat
  ab : Nat
  l1 : Nat
  l2 : Nat
def z6 : Array Value := #[.int .i64 0, .int .i64 0, .int .i64 0, .int .i64 0, .int .i64 0, .int .i64 0]
structure LM (w0 u : World) (q : LP) (S : M) (l : List (Nat × TX)) (G : Nat → Prop) (P : List HB) (A : List Hs) (gp hp : Nat → Value) (Q : List Value) : Prop where
  hg : Hg w0 u q.m q.gm S l G
  hm : Hm u w0.heap.size G P A
  bt : Box u q.tb #[gp 0, gp 1, gp 2, gp 3] 43
  bh : Box u q.hb #[hp 0, hp 1, hp 2, hp 3] 44
  bm : Box u q.mx #[ptr q.m] 38
  ba : ∃ av, Box u q.ab #[av] 23 ∧ u.ownsRow w0.heap.size 28 1 av Q.length Q ∧ ∀ k, av.ownBlock = some k → ¬ G k
  out : ¬ G q.tb ∧ ¬ G q.hb ∧ ¬ G q.mx ∧ ¬ G q.ab
  bl : ∀ y, (y = q.l1 ∨ y = q.l2) → Box u y z6 24 ∧ ¬ G y
  lo : w0.heap.size ≤ q.tb ∧ w0.heap.size ≤ q.hb ∧ w0.heap.size ≤ q.mx ∧ w0.heap.size ≤ q.ab
section
variable {w0 u u' : World} {q : LP} {S S' : M} {l l' : List (Nat × TX)} {G : Nat → Prop} {P : List HB} {A : List Hs} {gp hp : Nat → Value} {Q : List Value} {a : Nat} {b b' : HB} {H H' : Hs}
theorem row_stay {B n : Nat} {e : TypeId} {z : Nat} {v : Value} {xs : List Value} (h : u.ownsRow B e z v n xs) (hs : ∀ k, v.ownBlock = some k → u'.heap[k]? = u.heap[k]?) : u'.ownsRow B e z v n xs := by
  refine ⟨h.1, ?_⟩
  rcases h.2 with h1 | ⟨g, cap, cu, e1, hb, hg, r⟩
  · exact .inl h1
  · exact .inr ⟨g, cap, cu, e1, hb, (hs g (by rw [e1]; rfl)).trans hg, r⟩
theorem ToG.up2 {w0 u u' : World} {m gm : Nat} {S : M} {l : List (Nat × TX)} {G V : Nat → Prop} (_ : ToG w0 u m gm S l G V u') : ∀ k, grow G u u' k → G k ∨ u.heap.size ≤ k := fun _ hk => hk.imp id (fun e => e.1)
/-- behind a call of a transaction -/
theorem LM.call (h : LM w0 u q S l G P A gp hp Q) (t : ToG w0 u q.m q.gm S' l' G (fun _ => False) u') : LM w0 u' q S' l' (grow G u u') P A gp hp Q := by
  obtain ⟨av, b1, b2, b3⟩ := h.ba
  have n1 : ∀ {y : Nat}, ¬ G y → ¬ (G y ∨ False) := fun h k => k.elim h id
  have n2 : ∀ {y : Nat}, ¬ G y → y < u.heap.size → ¬ grow G u u' y := fun h1 h2 h3 => h3.elim h1 (fun h3 => by omega)
  refine ⟨t.has, h.hm.to t.upd t.up2, box_upd h.bt t.upd (n1 h.out.1), box_upd h.bh t.upd (n1 h.out.2.1), box_upd h.bm t.upd (n1 h.out.2.2.1), ⟨av, box_upd b1 t.upd (n1 h.out.2.2.2), row_stay b2 (fun k hk => t.upd.2 k ?_ (n1 (b3 k hk))), fun k hk => n2 (b3 k hk) ?_⟩, ⟨n2 h.out.1 h.bt.lt, n2 h.out.2.1 h.bh.lt, n2 h.out.2.2.1 h.bm.lt, n2 h.out.2.2.2 b1.lt⟩, fun y hy => ⟨box_upd (h.bl y hy).1 t.upd (n1 (h.bl y hy).2), n2 (h.bl y hy).2 (h.bl y hy).1.lt⟩, h.lo⟩
  all_goals
    obtain ⟨cs, hb⟩ := ownsRow_box b2 k hk
    exact Box.lt hb
/-- a block of a history is none of the law's variables -/
theorem OneH.ne {B y : Nat} {cs : Array Value} {t : TypeId} (h : OneH u B b H) (hb : Box u y cs t) (h1 : t ≠ 32) (h2 : t ≠ 35) : ¬ b.has y := fun hx => by
  rcases hx with rfl | rfl | hx
  · exact (hb.ne h.box h1) rfl
  · exact (h.mp.noBox hb) rfl
  · obtain ⟨cs', hc⟩ := ownsRow_box h.row y hx
    exact (hb.ne hc h2) rfl
/-- behind a change of one history -/
theorem LM.turn (h : LM w0 u q S l G P A gp hp Q) (hp' : P[a]? = some b) (ha : A[a]? = some H) (hu : Upd b.has u u') (hbl : Below w0.heap.size w0 u') (ho : OneH u' w0.heap.size b' H') (hb : ∀ y, b'.has y → b.has y ∨ u.heap.size ≤ y) : LM w0 u' q S l G (P.set a b') (A.set a H') gp hp Q := by
  obtain ⟨av, b1, b2, b3⟩ := h.ba
  obtain ⟨o, g⟩ := h.hm.one a b H hp' ha
  refine ⟨h.hg.stay hbl hu.1 (fun y hy => hu.2 y (h.hg.lt hy) (fun hx => g y hx hy)), h.hm.turn hp' hu ho hb (fun y hy => h.hg.lt hy), box_upd h.bt hu (o.ne h.bt (by decide) (by decide)), box_upd h.bh hu (o.ne h.bh (by decide) (by decide)), box_upd h.bm hu (o.ne h.bm (by decide) (by decide)), ⟨av, box_upd b1 hu (o.ne b1 (by decide) (by decide)), ?_, b3⟩, h.out, fun y hy => ⟨box_upd (h.bl y hy).1 hu (o.ne (h.bl y hy).1 (by decide) (by decide)), (h.bl y hy).2⟩, h.lo⟩
  refine row_stay b2 (fun k hk => ?_)
  obtain ⟨cs, hc⟩ := ownsRow_box b2 k hk
  exact hu.2 k (Box.lt hc) (o.ne hc (by decide) (by decide))
/-- a block of the law's own has changed: which, its type tells -/
theorem Hm.notV {y : Nat} {cs : Array Value} {t : TypeId} {B : Nat} (h : Hm u B G P A) (hb : Box u y cs t) (h1 : t ≠ 32) (h2 : t ≠ 35) : ∀ (a : Nat) b, P[a]? = some b → ∀ z, b.has z → ¬ (z = y) := fun a b hp z hz e => by
  obtain ⟨H, ha⟩ := h.hist hp
  exact (h.one a b H hp ha).1.ne hb h1 h2 (e ▸ hz)
theorem upd_set (u : World) (k i : Nat) (v : Value) : Upd (fun y => y = k) u (u.setCell ⟨k, i, none⟩ v) := ⟨by simp, fun z _ hn => heap_setCell_other u _ z v hn⟩
theorem four_set (f : Nat → Value) (j : Nat) (hj : j < 4) (v : Value) : (#[f 0, f 1, f 2, f 3] : Array Value).setIfInBounds j v = #[T.upd f j v 0, T.upd f j v 1, T.upd f j v 2, T.upd f j v 3] := by
  have : j = 0 ∨ j = 1 ∨ j = 2 ∨ j = 3 := by omega
  rcases this with rfl | rfl | rfl | rfl <;> rfl
theorem LM.row_box (_ : LM w0 u q S l G P A gp hp Q) {y : Nat} {cs : Array Value} {t : TypeId} (hb : Box u y cs t) (ht : t ≠ 28) {av : Value} (b2 : u.ownsRow w0.heap.size 28 1 av Q.length Q) : ∀ k, av.ownBlock = some k → k ≠ y := fun k hk e => by
  obtain ⟨cs', hc⟩ := ownsRow_box b2 k hk
  exact (hb.ne (e ▸ hc) ht) rfl
theorem LM.setT (h : LM w0 u q S l G P A gp hp Q) (j : Nat) (hj : j < 4) (v : Value) : LM w0 (u.setCell ⟨q.tb, j, none⟩ v) q S l G P A (T.upd gp j v) hp Q := by
  obtain ⟨av, b1, b2, b3⟩ := h.ba
  have hu := upd_set u q.tb j v
  have hs := h.bt.store j v
  rw [four_set gp j hj v] at hs
  exact ⟨h.hg.store h.out.1 h.lo.1 j v, h.hm.upd hu (h.hm.notV h.bt (by decide) (by decide)) (fun _ hy => .inl hy), hs, box_upd h.bh hu (h.bh.ne h.bt (by decide)), box_upd h.bm hu (h.bm.ne h.bt (by decide)), ⟨av, box_upd b1 hu (b1.ne h.bt (by decide)), row_stay b2 (fun k hk => heap_setCell_other u _ k v (h.row_box h.bt (by decide) b2 k hk)), b3⟩, h.out, fun y hy => ⟨box_upd (h.bl y hy).1 hu ((h.bl y hy).1.ne h.bt (by decide)), (h.bl y hy).2⟩, h.lo⟩
theorem LM.setH (h : LM w0 u q S l G P A gp hp Q) (j : Nat) (hj : j < 4) (v : Value) : LM w0 (u.setCell ⟨q.hb, j, none⟩ v) q S l G P A gp (T.upd hp j v) Q := by
  obtain ⟨av, b1, b2, b3⟩ := h.ba
  have hu := upd_set u q.hb j v
  have hs := h.bh.store j v
  rw [four_set hp j hj v] at hs
  exact ⟨h.hg.store h.out.2.1 h.lo.2.1 j v, h.hm.upd hu (h.hm.notV h.bh (by decide) (by decide)) (fun _ hy => .inl hy), box_upd h.bt hu (h.bt.ne h.bh (by decide)), hs, box_upd h.bm hu (h.bm.ne h.bh (by decide)), ⟨av, box_upd b1 hu (b1.ne h.bh (by decide)), row_stay b2 (fun k hk => heap_setCell_other u _ k v (h.row_box h.bh (by decide) b2 k hk)), b3⟩, h.out, fun y hy => ⟨box_upd (h.bl y hy).1 hu ((h.bl y hy).1.ne h.bh (by decide)), (h.bl y hy).2⟩, h.lo⟩
/-- a history is made -/
theorem LM.addH (h : LM w0 u q S l G P A gp hp Q) (k : Int) : LM w0 ((u.alloc (.map #[] 0)).alloc (.cells #[.int .i64 k, .int .i64 0, .slice none 0 0, .map (some u.heap.size), .bool false] 32)) q S l G (P ++ [⟨u.heap.size + 1, u.heap.size, .slice none 0 0⟩]) (A ++ [⟨k, 0, [], [], false⟩]) gp hp Q := by
  obtain ⟨av, b1, b2, b3⟩ := h.ba
  have s1 : (u.alloc (.map #[] 0)).heap.size = u.heap.size + 1 := by simp
  have hb : Below u.heap.size u ((u.alloc (.map #[] 0)).alloc (.cells #[.int .i64 k, .int .i64 0, .slice none 0 0, .map (some u.heap.size), .bool false] 32)) := ((Below.refl _ _).alloc (Nat.le_refl _) _).alloc (by simp) _
  have hx := Box.new (u.alloc (.map #[] 0)) #[.int .i64 k, .int .i64 0, .slice none 0 0, .map (some u.heap.size), .bool false] 32
  rw [s1] at hx
  have h0 := h.hg.mm.hB
  have ho : OneH ((u.alloc (.map #[] 0)).alloc (.cells #[.int .i64 k, .int .i64 0, .slice none 0 0, .map (some u.heap.size), .bool false] 32)) w0.heap.size ⟨u.heap.size + 1, u.heap.size, .slice none 0 0⟩ ⟨k, 0, [], [], false⟩ := by
    refine ⟨hx, (MapL.made u).stay (Below.heap_alloc _ _ _ (by simp)), World.ownsRow_nil _ _ _ _, ?_⟩
    constructor
    · show w0.heap.size ≤ u.heap.size + 1
      omega
    · exact h0
  refine ⟨h.hg.below hb, h.hm.add hb ho (fun y hy => ?_) (fun y hy => h.hg.lt hy), h.bt.below hb h.bt.lt, h.bh.below hb h.bh.lt, h.bm.below hb h.bm.lt, ⟨av, b1.below hb b1.lt, ownsRow_below b2 hb.block, b3⟩, h.out, fun y hy => ⟨(h.bl y hy).1.below hb (h.bl y hy).1.lt, (h.bl y hy).2⟩, h.lo⟩
  rcases hy with rfl | rfl | hy
  · show u.heap.size ≤ u.heap.size + 1
    omega
  · exact Nat.le_refl _
  · cases hy
/-- one more stands in the row of all -/
theorem LM.app {u6 u7 : World} {av v' x : Value} (h : LM w0 u q S l G P A gp hp Q) (b1 : Box u q.ab #[av] 23) (b2 : u.ownsRow w0.heap.size 28 1 av Q.length Q) (b3 : ∀ k, av.ownBlock = some k → ¬ G k) (h6 : Below u.heap.size u u6) (hg : u6.grownBy u7 av.ownBlock) (hr : u7.ownsRow w0.heap.size 28 1 v' (Q.length + 1) (Q ++ [x])) (hv : ∀ k, v'.ownBlock = some k → av.ownBlock = some k ∨ u.heap.size ≤ k) : LM w0 (u7.setCell ⟨q.ab, 0, none⟩ v') q S l G P A gp hp (Q ++ [x]) := by
  have hrow : ∀ k, av.ownBlock = some k → w0.heap.size ≤ k ∧ ∃ cs, Box u k cs 28 := fun k hk => ⟨(b2.lt k hk).1, ownsRow_box b2 k hk⟩
  have hu7 : Upd (fun y => av.ownBlock = some y) u u7 := ⟨Nat.le_trans h6.size hg.size, fun k hk hn => (hg.block k (Nat.lt_of_lt_of_le hk h6.size) (fun e => hn e.symm)).trans (h6.block k hk)⟩
  have hu8 : Upd (fun y => av.ownBlock = some y ∨ y = q.ab) u (u7.setCell ⟨q.ab, 0, none⟩ v') := ⟨by have := hu7.1; simpa using this, fun k hk hn => (heap_setCell_other u7 _ k v' (show k ≠ q.ab from fun e => hn (.inr e))).trans (hu7.2 k hk (fun e => hn (.inl e)))⟩
  have hbl : Below w0.heap.size w0 (u7.setCell ⟨q.ab, 0, none⟩ v') := ((h.hg.bel.trans (h6.mono h.hg.mm.hB)).grown hg (Nat.le_trans h.hg.mm.hB h6.size) (fun k e => (hrow k e).1)).grown (grown_store u7 q.ab 0 v') (Nat.le_trans h.hg.mm.hB hu7.1) (fun k e => by cases e; exact h.lo.2.2.2)
  have nv : ∀ {y : Nat} {cs : Array Value} {t : TypeId}, Box u y cs t → t ≠ 28 → t ≠ 23 → ¬ (av.ownBlock = some y ∨ y = q.ab) := fun hb h1 h2 hx => by
    rcases hx with hx | hx
    · obtain ⟨_, cs', hc⟩ := hrow _ hx
      exact (hb.ne hc h1) rfl
    · subst hx
      exact (hb.ne b1 h2) rfl
  have ab7 : Box u7 q.ab #[av] 23 := box_upd b1 hu7 (fun hx => by obtain ⟨_, cs', hc⟩ := hrow _ hx; exact (b1.ne hc (by decide)) rfl)
  refine ⟨h.hg.stay hbl hu8.1 (fun y hy => hu8.2 y (h.hg.lt hy) (fun hx => hx.elim (fun hx => b3 y hx hy) (fun hx => h.out.2.2.2 (hx ▸ hy)))), h.hm.upd hu8 (fun a b hp z hz hx => ?_) (fun _ hy => .inl hy), box_upd h.bt hu8 (nv h.bt (by decide) (by decide)), box_upd h.bh hu8 (nv h.bh (by decide) (by decide)), box_upd h.bm hu8 (nv h.bm (by decide) (by decide)), ⟨v', ab7.store 0 v', ?_, fun k hk => ?_⟩, h.out, fun y hy => ⟨box_upd (h.bl y hy).1 hu8 (nv (h.bl y hy).1 (by decide) (by decide)), (h.bl y hy).2⟩, h.lo⟩
  · obtain ⟨H, ha⟩ := h.hm.hist hp
    have o := (h.hm.one a b H hp ha).1
    rcases hx with hx | hx
    · obtain ⟨_, cs', hc⟩ := hrow _ hx
      exact o.ne hc (by decide) (by decide) hz
    · exact o.ne b1 (by decide) (by decide) (hx ▸ hz)
  · rw [List.length_append]
    refine row_stay hr (fun k hk => heap_setCell_other u7 _ k v' (fun e => ?_))
    obtain ⟨cs', hc⟩ := ownsRow_box hr k hk
    have e' : k = q.ab := e
    exact (ab7.ne (e' ▸ hc) (by decide)) rfl
  · rcases hv k hk with h1 | h1
    · exact b3 k h1
    · intro hg'
      have := h.hg.lt hg'
      omega
end
end Go.Proofs.Ytafiopjgegmfoaa.T
namespace Go.Proofs.Ytafiopjgegmfoaa.T
open Go.RowKit Go.Proofs.Ytafiopjgegmfoaa.C
theorem infoP28 : (Try.prog.info? 28).map (fun i => (i.zero, i.size, i.bytes)) = some (some (.pointer none), 1, 8) := by kernel_rfl
set_option maxHeartbeats 4000000 in
set_option maxRecDepth 100000 in
theorem anew_at {w0 u : World} {q : LP} {S : M} {l : List (Nat × TX)} {G : Nat → Prop} {P : List HB} {A : List Hs} {gp hp : Nat → Value} {Q : List Value} (h : LM w0 u q S l G P A gp hp Q) (j : Nat) (hj : j < 4) (hQ : Q.length ≤ 1000) :
    Calls Try.prog 9 #[.int .i64 (j : Int), ptr q.mx, ptr q.tb, ptr q.hb, ptr q.ab] u fun r u' => r = .returned (.bool true) ∧ ∃ g b G', LM w0 u' q S (l ++ [(g, X0 ((j : Int) + 1) S.k)]) G' (P ++ [b]) (A ++ [⟨S.k, 0, [], [], false⟩]) (upd gp j (ptr g)) (upd hp j (ptr b.h)) (Q ++ [ptr b.h]) := by
  obtain ⟨i0, hi, hz0, hz1, hz2⟩ := info_parts infoP28
  have hmm := @run_makeMap Try.prog
  have cm : u.cell? ⟨q.mx, 0, none⟩ = some (.pointer (some ⟨q.m, 0, none⟩)) := h.bm.cell 0
  have cb := h.hg.begin (V := fun _ => False) ((j : Int) + 1) (by omega) (by omega)
  have H0 : Hid (LM w0 u q S l G P A gp hp Q) := h
  have hj4 : (j : Int) < 4 := by omega
  clear h
  obtain ⟨m, gm, mx, tb, hb, ab, l1, l2⟩ := q
  dsimp only at *
  unfold ptr at cb
  unfold ptr
  go_enter Try.func9, Try.ntmps9
  go_wp2_with fail
  refine cb.mono ?_
  rintro r u1 ⟨g, rfl, t⟩
  have L1 := H0.out.call t
  have ct : u1.cell? ⟨tb, j, none⟩ = some (gp j) ∧ u1.frozen? ⟨tb, j, none⟩ = false := by
    refine ⟨?_, L1.bt.frozen j⟩
    rw [L1.bt.cell j]
    have : j = 0 ∨ j = 1 ∨ j = 2 ∨ j = 3 := by omega
    rcases this with rfl | rfl | rfl | rfl <;> rfl
  obtain ⟨ct1, ct2⟩ := ct
  have L2 := L1.setT j hj (.pointer (some ⟨g, 0, none⟩))
  have HL2 : Hid (LM w0 (u1.setCell ⟨tb, j, none⟩ (.pointer (some ⟨g, 0, none⟩))) ⟨m, gm, mx, tb, hb, ab, l1, l2⟩ S (l ++ [(g, X0 ((j : Int) + 1) S.k)]) (grow G u u1) P A (upd gp j (.pointer (some ⟨g, 0, none⟩))) hp Q) := L2
  have cm2 : (u1.setCell ⟨tb, j, none⟩ (.pointer (some ⟨g, 0, none⟩))).cell? ⟨mx, 0, none⟩ = some (.pointer (some ⟨m, 0, none⟩)) := L2.bm.cell 0
  have ck := C.clock_at L2.hg.mm.is
  have ch : (u1.setCell ⟨tb, j, none⟩ (.pointer (some ⟨g, 0, none⟩))).cell? ⟨hb, j, none⟩ = some (hp j) ∧ (u1.setCell ⟨tb, j, none⟩ (.pointer (some ⟨g, 0, none⟩))).frozen? ⟨hb, j, none⟩ = false := by
    refine ⟨?_, L2.bh.frozen j⟩
    rw [L2.bh.cell j]
    have : j = 0 ∨ j = 1 ∨ j = 2 ∨ j = 3 := by omega
    rcases this with rfl | rfl | rfl | rfl <;> rfl
  unfold ptr at ck
  clear t L1 L2 H0 cb cm
  have hs1 : (u1.setCell ⟨tb, j, none⟩ (.pointer (some ⟨g, 0, none⟩))).heap.size = u1.heap.size := by simp
  have L4 := HL2.out.addH S.k
  rw [hs1] at L4
  obtain ⟨ch1, ch2⟩ := ch
  have c4 : (((u1.setCell ⟨tb, j, none⟩ (.pointer (some ⟨g, 0, none⟩))).alloc (.map #[] 0)).alloc (.cells #[.int .i64 S.k, .int .i64 0, .slice none 0 0, .map (some u1.heap.size), .bool false] 32)).cell? ⟨hb, j, none⟩ = some (hp j) ∧ (((u1.setCell ⟨tb, j, none⟩ (.pointer (some ⟨g, 0, none⟩))).alloc (.map #[] 0)).alloc (.cells #[.int .i64 S.k, .int .i64 0, .slice none 0 0, .map (some u1.heap.size), .bool false] 32)).frozen? ⟨hb, j, none⟩ = false := by
    refine ⟨?_, L4.bh.frozen j⟩
    rw [L4.bh.cell j]
    have : j = 0 ∨ j = 1 ∨ j = 2 ∨ j = 3 := by omega
    rcases this with rfl | rfl | rfl | rfl <;> rfl
  obtain ⟨c41, c42⟩ := c4
  have L5 := L4.setH j hj (.pointer (some ⟨u1.heap.size + 1, 0, none⟩))
  have HL5 : Hid (LM w0 ((((u1.setCell ⟨tb, j, none⟩ (.pointer (some ⟨g, 0, none⟩))).alloc (.map #[] 0)).alloc (.cells #[.int .i64 S.k, .int .i64 0, .slice none 0 0, .map (some u1.heap.size), .bool false] 32)).setCell ⟨hb, j, none⟩ (.pointer (some ⟨u1.heap.size + 1, 0, none⟩))) ⟨m, gm, mx, tb, hb, ab, l1, l2⟩ S (l ++ [(g, X0 ((j : Int) + 1) S.k)]) (grow G u u1) (P ++ [⟨u1.heap.size + 1, u1.heap.size, .slice none 0 0⟩]) (A ++ [⟨S.k, 0, [], [], false⟩]) (upd gp j (.pointer (some ⟨g, 0, none⟩))) (upd hp j (.pointer (some ⟨u1.heap.size + 1, 0, none⟩))) Q) := L5
  clear L4 L5 HL2 hs1
  go_upto_region 4 with (go_at_call 11; refine ck.mono ?_; rintro e wx ⟨rfl, hwx⟩; subst wx)
  obtain ⟨u5, hu5⟩ : ∃ u5, u5 = (((u1.setCell ⟨tb, j, none⟩ (.pointer (some ⟨g, 0, none⟩))).alloc (.map #[] 0)).alloc (.cells #[.int .i64 S.k, .int .i64 0, .slice none 0 0, .map (some u1.heap.size), .bool false] 32)).setCell ⟨hb, j, none⟩ (.pointer (some ⟨u1.heap.size + 1, 0, none⟩)) := ⟨_, rfl⟩
  rw [← hu5] at HL5 ⊢
  clear hu5 c41 c42 ch1 ch2 ck cm2 ct1 ct2
  obtain ⟨av, ba1, ba2, ba3⟩ := HL5.out.ba
  obtain ⟨aa, cc, rfl⟩ := ownsRow_slice ba2
  have c1 : u5.cell? ⟨ab, 0, none⟩ = some (.slice aa Q.length cc) := ba1.cell 0
  have f1 : u5.frozen? ⟨ab, 0, none⟩ = false := ba1.frozen 0
  have c2 : u5.cell? ⟨hb, j, none⟩ = some (.pointer (some ⟨u1.heap.size + 1, 0, none⟩)) := by
    rw [HL5.out.bh.cell j]
    have : j = 0 ∨ j = 1 ∨ j = 2 ∨ j = 3 := by omega
    rcases this with rfl | rfl | rfl | rfl <;> rfl
  have HBA : Hid (Box u5 ab #[.slice aa Q.length cc] 23 ∧ u5.ownsRow w0.heap.size 28 1 (.slice aa Q.length cc) Q.length Q ∧ ∀ k, (Value.slice aa Q.length cc).ownBlock = some k → ¬ grow G u u1 k) := ⟨ba1, ba2, ba3⟩
  have HHB : Hid (Box u5 hb #[upd hp j (.pointer (some ⟨u1.heap.size + 1, 0, none⟩)) 0, upd hp j (.pointer (some ⟨u1.heap.size + 1, 0, none⟩)) 1, upd hp j (.pointer (some ⟨u1.heap.size + 1, 0, none⟩)) 2, upd hp j (.pointer (some ⟨u1.heap.size + 1, 0, none⟩)) 3] 44) := HL5.out.bh
  have h05 : w0.heap.size ≤ u5.heap.size := HL5.out.hg.mm.hB
  have HNE : Hid (hb ≠ ab) := HL5.out.bh.ne ba1 (by decide)
  have ca : ∀ o, (u5.alloc o).cell? ⟨ab, 0, none⟩ = some (.slice aa Q.length cc) := fun o => (ba1.alloc o).cell 0
  have cah : ∀ o, (u5.alloc o).cell? ⟨hb, j, none⟩ = some (.pointer (some ⟨u1.heap.size + 1, 0, none⟩)) := fun o => by
    rw [(HL5.out.bh.alloc o).cell j]
    have : j = 0 ∨ j = 1 ∨ j = 2 ∨ j = 3 := by omega
    rcases this with rfl | rfl | rfl | rfl <;> rfl
  clear ba1 ba2 ba3
  generalize u1.heap.size + 1 = hn at *
  have B0 : Below u5.heap.size u5 u5 := Below.refl _ _
  have HS : Hid (∀ u', Below u5.heap.size u5 u' → u'.cell? ⟨ab, 0, none⟩ = some (.slice aa Q.length cc) ∧ u'.cell? ⟨hb, j, none⟩ = some (.pointer (some ⟨hn, 0, none⟩))) := fun u' hb' => by
    have b1 := HBA.out.1.below hb' HBA.out.1.lt
    have b2 := HHB.out.below hb' HHB.out.lt
    refine ⟨b1.cell 0, ?_⟩
    rw [b2.cell j]
    have : j = 0 ∨ j = 1 ∨ j = 2 ∨ j = 3 := by omega
    rcases this with rfl | rfl | rfl | rfl <;> rfl
  have HK2 : Hid (∀ u6 u', Below u5.heap.size u5 u6 → u6.grownBy u' (Value.slice aa Q.length cc).ownBlock → (u'.cell? ⟨ab, 0, none⟩ = some (.slice aa Q.length cc) ∧ u'.cell? ⟨hb, j, none⟩ = some (.pointer (some ⟨hn, 0, none⟩))) ∧ u'.frozen? ⟨ab, 0, none⟩ = false) := fun u6 u' hb' hg => by
    have nb : ∀ {y : Nat} {cs : Array Value} {t : TypeId}, Box u5 y cs t → t ≠ 28 → Box u' y cs t := fun b ht => by
      have b6 := b.below hb' b.lt
      refine (hg.block _ b6.lt (fun e => ?_)).trans b6
      obtain ⟨cs', hc⟩ := ownsRow_box HBA.out.2.1 _ e.symm
      exact (b.ne hc ht) rfl
    have b1 := nb HBA.out.1 (by decide)
    have b2 := nb HHB.out (by decide)
    refine ⟨⟨b1.cell 0, ?_⟩, b1.frozen 0⟩
    rw [b2.cell j]
    have : j = 0 ∨ j = 1 ∨ j = 2 ∨ j = 3 := by omega
    rcases this with rfl | rfl | rfl | rfl <;> rfl
  have HFin : Hid (∀ u6 u7 gg gc, Below u5.heap.size u5 u6 → u6.grownBy u7 (Value.slice aa Q.length cc).ownBlock → u7.ownsRow w0.heap.size 28 1 (.slice (some ⟨gg, 0, none⟩) (Q.length + 1) gc) (Q.length + 1) (Q ++ [.pointer (some ⟨hn, 0, none⟩)]) → ((Value.slice aa Q.length cc).ownBlock = some gg ∨ gg = u5.heap.size + 1) → LM w0 (u7.setCell ⟨ab, 0, none⟩ (.slice (some ⟨gg, 0, none⟩) (Q.length + 1) gc)) ⟨m, gm, mx, tb, hb, ab, l1, l2⟩ S (l ++ [(g, X0 ((j : Int) + 1) S.k)]) (grow G u u1) (P ++ [⟨hn, u1.heap.size, .slice none 0 0⟩]) (A ++ [⟨S.k, 0, [], [], false⟩]) (upd gp j (.pointer (some ⟨g, 0, none⟩))) (upd hp j (.pointer (some ⟨hn, 0, none⟩))) (Q ++ [.pointer (some ⟨hn, 0, none⟩)])) := fun u6 u7 gg gc h6 hg hr hat => HL5.out.app HBA.out.1 HBA.out.2.1 HBA.out.2.2 h6 hg hr (fun k hk => by
    have e : gg = k := by injection hk
    subst e
    rcases hat with h | h
    · exact .inl h
    · exact .inr (by omega))
  go_region_law (first
          | (refine step_append_lies _ (by rfl) _ _ _ (by rfl) w0.heap.size 28 i0 _ 1 8 Try.underlying23 hi hz0 hz1 hz2 rfl (by omega) (.slice aa Q.length cc) Q.length Q (by rfl) (ownsRow_below HBA.out.2.1 (B0.alloc (Nat.le_refl _) _).block)
                ⟨u5.heap.size, 0, none⟩ 1 1 [.pointer (some ⟨hn, 0, none⟩)] (by rfl) (by rfl) (World.news_of_block (cs := #[.pointer (some ⟨hn, 0, none⟩)]) (t := 28) (fr := (0, 0)) (heap_alloc_new u5 _)) (by intro u hu; simp at hu; subst hu; rfl)
                (by omega) (by unfold maxLen; omega) (by omega) (by simp; omega) (u5.heap.size + 1) (by simp) ?_
             intro gg gc u7 hown hgrow hat hlt1
             have KK : Hid ((u7.cell? ⟨ab, 0, none⟩ = some (.slice aa Q.length cc) ∧ u7.cell? ⟨hb, j, none⟩ = some (.pointer (some ⟨hn, 0, none⟩))) ∧ u7.frozen? ⟨ab, 0, none⟩ = false) := HK2.out _ u7 (B0.alloc (Nat.le_refl _) _) hgrow
             have kk := KK.out.1
             have kf := KK.out.2
             have ks : (u7.setCell ⟨ab, 0, none⟩ (.slice (some ⟨gg, 0, none⟩) (Q.length + 1) gc)).cell? ⟨hb, j, none⟩ = some (.pointer (some ⟨hn, 0, none⟩)) := by rw [World.cell?_setCell_other _ _ _ _ (by intro e; injection e with e1; exact HNE.out e1.symm)]; exact kk.2
             have kk1 := kk.1
             have HF : Hid (LM w0 (u7.setCell ⟨ab, 0, none⟩ (.slice (some ⟨gg, 0, none⟩) (Q.length + 1) gc)) ⟨m, gm, mx, tb, hb, ab, l1, l2⟩ S (l ++ [(g, X0 ((j : Int) + 1) S.k)]) (grow G u u1) (P ++ [⟨hn, u1.heap.size, .slice none 0 0⟩]) (A ++ [⟨S.k, 0, [], [], false⟩]) (upd gp j (.pointer (some ⟨g, 0, none⟩))) (upd hp j (.pointer (some ⟨hn, 0, none⟩))) (Q ++ [.pointer (some ⟨hn, 0, none⟩)])) := HFin.out _ u7 gg gc (B0.alloc (Nat.le_refl _) _) hgrow hown (by simpa using hat)
             clear hown hgrow hat hlt1)
          | (refine step_append_lies _ (by rfl) _ _ _ (by rfl) w0.heap.size 28 i0 _ 1 8 Try.underlying23 hi hz0 hz1 hz2 rfl (by omega) (.slice aa Q.length cc) Q.length Q (by rfl) (ownsRow_below HBA.out.2.1 (B0.drew.alloc (Nat.le_refl _) _).block)
                ⟨u5.heap.size, 0, none⟩ 1 1 [.pointer (some ⟨hn, 0, none⟩)] (by rfl) (by rfl) (World.news_of_block (cs := #[.pointer (some ⟨hn, 0, none⟩)]) (t := 28) (fr := (0, 0)) (heap_alloc_new u5.drew _)) (by intro u hu; simp at hu; subst hu; rfl)
                (by omega) (by unfold maxLen; omega) (by omega) (by simp; omega) (u5.heap.size + 1) (by simp) ?_
             intro gg gc u7 hown hgrow hat hlt1
             have KK : Hid ((u7.cell? ⟨ab, 0, none⟩ = some (.slice aa Q.length cc) ∧ u7.cell? ⟨hb, j, none⟩ = some (.pointer (some ⟨hn, 0, none⟩))) ∧ u7.frozen? ⟨ab, 0, none⟩ = false) := HK2.out _ u7 (B0.drew.alloc (Nat.le_refl _) _) hgrow
             have kk := KK.out.1
             have kf := KK.out.2
             have ks : (u7.setCell ⟨ab, 0, none⟩ (.slice (some ⟨gg, 0, none⟩) (Q.length + 1) gc)).cell? ⟨hb, j, none⟩ = some (.pointer (some ⟨hn, 0, none⟩)) := by rw [World.cell?_setCell_other _ _ _ _ (by intro e; injection e with e1; exact HNE.out e1.symm)]; exact kk.2
             have kk1 := kk.1
             have HF : Hid (LM w0 (u7.setCell ⟨ab, 0, none⟩ (.slice (some ⟨gg, 0, none⟩) (Q.length + 1) gc)) ⟨m, gm, mx, tb, hb, ab, l1, l2⟩ S (l ++ [(g, X0 ((j : Int) + 1) S.k)]) (grow G u u1) (P ++ [⟨hn, u1.heap.size, .slice none 0 0⟩]) (A ++ [⟨S.k, 0, [], [], false⟩]) (upd gp j (.pointer (some ⟨g, 0, none⟩))) (upd hp j (.pointer (some ⟨hn, 0, none⟩))) (Q ++ [.pointer (some ⟨hn, 0, none⟩)])) := HFin.out _ u7 gg gc (B0.drew.alloc (Nat.le_refl _) _) hgrow hown (by simpa using hat)
             clear hown hgrow hat hlt1))
  all_goals go_wp2_with fail
  all_goals go_ret
  all_goals exact ⟨rfl, g, _, _, HF.out⟩
end Go.Proofs.Ytafiopjgegmfoaa.T
namespace Go.Proofs.Ytafiopjgegmfoaa.T
open Go.RowKit Go.Proofs.Ytafiopjgegmfoaa.C
section
variable {w0 u : World} {q : LP} {S : M} {l : List (Nat × TX)} {G : Nat → Prop} {P : List HB} {A : List Hs} {gp hp : Nat → Value} {Q : List Value} {a : Nat} {b : HB} {H : Hs}
theorem OneH.rowNe {B : Nat} (h : OneH u B b H) : b.mb ≠ b.h ∧ ∀ k, b.rv.ownBlock = some k → k ≠ b.h ∧ k ≠ b.mb := ⟨h.mp.noBox h.box, fun k hk => by
  obtain ⟨cs, hc⟩ := ownsRow_box h.row k hk
  exact ⟨hc.ne h.box (by decide), fun e => h.mp.noBox hc e.symm⟩⟩
/-- it is done -/
theorem LM.fin (h : LM w0 u q S l G P A gp hp Q) (hP : P[a]? = some b) (ha : A[a]? = some H) (v : Int) : LM w0 ((u.setCell ⟨b.h, 4, none⟩ (.bool true)).setCell ⟨b.h, 1, none⟩ (.int .i64 v)) q S l G P (A.set a { H with done := true, ver := v }) gp hp Q := by
  obtain ⟨o, g⟩ := h.hm.one a b H hP ha
  obtain ⟨n1, n2⟩ := o.rowNe
  have hu : Upd b.has u ((u.setCell ⟨b.h, 4, none⟩ (.bool true)).setCell ⟨b.h, 1, none⟩ (.int .i64 v)) := ⟨by simp, fun z _ hn => (heap_setCell_other _ _ z _ (show z ≠ b.h from fun e => hn (.inl e))).trans (heap_setCell_other _ _ z _ (show z ≠ b.h from fun e => hn (.inl e)))⟩
  have hbl : Below w0.heap.size w0 ((u.setCell ⟨b.h, 4, none⟩ (.bool true)).setCell ⟨b.h, 1, none⟩ (.int .i64 v)) := (h.hg.bel.grown (grown_store u b.h 4 _) h.hg.mm.hB (fun k e => by cases e; exact o.lo.1)).grown (grown_store _ b.h 1 _) (by simp; exact h.hg.mm.hB) (fun k e => by cases e; exact o.lo.1)
  have st : ∀ y, y ≠ b.h → ((u.setCell ⟨b.h, 4, none⟩ (.bool true)).setCell ⟨b.h, 1, none⟩ (.int .i64 v)).heap[y]? = u.heap[y]? := fun y hy => (heap_setCell_other _ _ y _ (show y ≠ b.h from hy)).trans (heap_setCell_other _ _ y _ (show y ≠ b.h from hy))
  have ho : OneH ((u.setCell ⟨b.h, 4, none⟩ (.bool true)).setCell ⟨b.h, 1, none⟩ (.int .i64 v)) w0.heap.size b { H with done := true, ver := v } := ⟨(o.box.store 4 _).store 1 _, o.mp.stay (st _ n1), row_stay o.row (fun k hk => st k (n2 k hk).1), o.lo⟩
  have := h.turn hP ha hu hbl ho (fun y hy => .inl hy)
  rwa [show P.set a b = P from set_self hP] at this
/-- a write is set down -/
theorem LM.wrote (h : LM w0 u q S l G P A gp hp Q) (hP : P[a]? = some b) (ha : A[a]? = some H) (i : Int) (hi : 0 ≤ i ∧ i < 6) (hl : H.wr.length ≤ 6) (v : Int) : ∃ w', (Instr.mapUpdate 30 (.map (some b.mb)) (.int .i64 i) (.int .i64 v)).run Try.prog u = .ok () w' ∧ LM w0 w' q S l G P (A.set a { H with wr := pt H.wr i v }) gp hp Q := by
  obtain ⟨o, g⟩ := h.hm.one a b H hP ha
  obtain ⟨n1, n2⟩ := o.rowNe
  obtain ⟨w', hr, hm, hg⟩ := o.mp.update 30 3 Try.underlying30 i (by omega) v (.inr (by omega))
  refine ⟨w', hr, ?_⟩
  have st : ∀ y, y < u.heap.size → y ≠ b.mb → w'.heap[y]? = u.heap[y]? := fun y hl hy => hg.block y hl (fun e => hy (by injection e))
  have hu : Upd b.has u w' := ⟨hg.size, fun z hz hn => st z hz (fun e => hn (.inr (.inl e)))⟩
  have ho : OneH w' w0.heap.size b { H with wr := pt H.wr i v } := ⟨(st _ o.box.lt (fun e => n1 e.symm)).trans o.box, hm, row_stay o.row (fun k hk => st k (o.lt k (.inr (.inr hk))).2 (n2 k hk).2), o.lo⟩
  have := h.turn hP ha hu (h.hg.bel.grown hg h.hg.mm.hB (fun k e => by cases e; exact o.lo.2)) ho (fun y hy => .inl hy)
  rwa [show P.set a b = P from set_self hP] at this
/-- a read is set down: the row has grown, its new value is stored -/
theorem LM.got {u6 u7 : World} {rv' : Value} (h : LM w0 u q S l G P A gp hp Q) (hP : P[a]? = some b) (ha : A[a]? = some H) (g : Int × Int) (h6 : Below u.heap.size u u6) (hg : u6.grownBy u7 b.rv.ownBlock) (hr : u7.ownsRow w0.heap.size 35 2 rv' (H.rd.length + 1) (rcs H.rd ++ [.int .i64 g.1, .int .i64 g.2])) (hv : ∀ k, rv'.ownBlock = some k → b.rv.ownBlock = some k ∨ u.heap.size ≤ k) :
    LM w0 (u7.setCell ⟨b.h, 2, none⟩ rv') q S l G (P.set a ⟨b.h, b.mb, rv'⟩) (A.set a { H with rd := H.rd ++ [g] }) gp hp Q := by
  obtain ⟨o, go⟩ := h.hm.one a b H hP ha
  obtain ⟨n1, n2⟩ := o.rowNe
  have hu7 : Upd (fun y => b.rv.ownBlock = some y) u u7 := ⟨Nat.le_trans h6.size hg.size, fun k hk hn => (hg.block k (Nat.lt_of_lt_of_le hk h6.size) (fun e => hn e.symm)).trans (h6.block k hk)⟩
  have hu : Upd b.has u (u7.setCell ⟨b.h, 2, none⟩ rv') := ⟨by have := hu7.1; simpa using this, fun z hz hn => (heap_setCell_other u7 _ z _ (show z ≠ b.h from fun e => hn (.inl e))).trans (hu7.2 z hz (fun e => hn (.inr (.inr e))))⟩
  have bx7 : Box u7 b.h (hcs b H) 32 := box_upd o.box hu7 (fun hx => (n2 _ hx).1 rfl)
  have hbl : Below w0.heap.size w0 (u7.setCell ⟨b.h, 2, none⟩ rv') := ((h.hg.bel.trans (h6.mono h.hg.mm.hB)).grown hg (Nat.le_trans h.hg.mm.hB h6.size) (fun k e => (o.lt k (.inr (.inr e))).1)).grown (grown_store u7 b.h 2 rv') (Nat.le_trans h.hg.mm.hB hu7.1) (fun k e => by cases e; exact o.lo.1)
  have ho : OneH (u7.setCell ⟨b.h, 2, none⟩ rv') w0.heap.size ⟨b.h, b.mb, rv'⟩ { H with rd := H.rd ++ [g] } := by
    refine ⟨bx7.store 2 rv', o.mp.stay ((heap_setCell_other u7 _ b.mb _ (show b.mb ≠ b.h from n1)).trans (hu7.2 _ o.mp.lt (fun hx => (n2 _ hx).2 rfl))), ?_, o.lo⟩
    show (u7.setCell ⟨b.h, 2, none⟩ rv').ownsRow w0.heap.size 35 2 rv' (H.rd ++ [g]).length (rcs (H.rd ++ [g]))
    rw [rcs_snoc, List.length_append]
    refine row_stay hr (fun k hk => heap_setCell_other u7 _ k _ (fun e => ?_))
    obtain ⟨cs', hc⟩ := ownsRow_box hr k hk
    have e' : k = b.h := e
    exact (bx7.ne (e' ▸ hc) (by decide)) rfl
  refine h.turn hP ha hu hbl ho (fun y hy => ?_)
  rcases hy with hy | hy | hy
  · exact .inl (.inl hy)
  · exact .inl (.inr (.inl hy))
  · exact (hv y hy).imp (fun e => .inr (.inr e)) id
end
end Go.Proofs.Ytafiopjgegmfoaa.T
namespace Go.Proofs.Ytafiopjgegmfoaa.T
open Go.RowKit Go.Proofs.Ytafiopjgegmfoaa.C
structure LQ (S : M) (l : List (Nat × TX)) (P : List HB) (A : List Hs) (gp hp : Nat → Value) (cur : Nat → Nat) : Prop where
  life : ∃ X Ph V Pb, Life S 4 X Ph V Pb A cur ∧ ∀ j, j < 4 → ∃ g, gp j = ptr g ∧ l[cur j]? = some (g, X j)
  inn : AllIn A
  six : S.C.length = 6
  len : l.length = A.length
  hps : ∀ j, j < 4 → ∃ b, P[cur j]? = some b ∧ hp j = ptr b.h
section
variable {S S' : M} {l : List (Nat × TX)} {P P' : List HB} {A : List Hs} {gp hp : Nat → Value} {cur : Nat → Nat} {j g : Nat} {x x' : TX} {h : Hs} {v e i : Int}
/-- the transaction and the history of j -/
theorem LQ.at (L : LQ S l P A gp hp cur) (hj : j < 4) : ∃ g x h b, gp j = ptr g ∧ l[cur j]? = some (g, x) ∧ A[cur j]? = some h ∧ P[cur j]? = some b ∧ hp j = ptr b.h := by
  obtain ⟨X, Ph, V, Pb, hl, hX⟩ := L.life
  obtain ⟨g, h1, h2⟩ := hX j hj
  obtain ⟨b, h3, h4⟩ := L.hps j hj
  exact ⟨g, X j, _, b, h1, h2, List.getElem?_eq_getElem (hl.len j hj), h3, h4⟩
theorem LQ.link {X : Nat → TX} (hX : ∀ j, j < 4 → ∃ g, gp j = ptr g ∧ l[cur j]? = some (g, X j)) (hinj : ∀ i j, i < 4 → j < 4 → i ≠ j → cur i ≠ cur j) (hj : j < 4) (hg : l[cur j]? = some (g, x)) : X j = x ∧ gp j = ptr g ∧ ∀ i, i < 4 → ∃ g', gp i = ptr g' ∧ (l.set (cur j) (g, x'))[cur i]? = some (g', upd X j x' i) := by
  obtain ⟨g1, h1, h2⟩ := hX j hj
  rw [hg] at h2
  injection h2 with h2
  injection h2 with e1 e2
  subst e1
  refine ⟨e2.symm, h1, fun i hi => ?_⟩
  by_cases e : i = j
  · subst e
    refine ⟨g, h1, ?_⟩
    rw [upd_same, List.getElem?_set, if_pos rfl, if_pos (List.getElem?_eq_some_iff.1 hg).1]
  · obtain ⟨g2, h3, h4⟩ := hX i hi
    refine ⟨g2, h3, ?_⟩
    rw [upd_other _ _ e, List.getElem?_set, if_neg (fun e' => hinj i j hi hj e e'.symm)]
    exact h4
theorem LQ.hps2 (hh : ∀ j, j < 4 → ∃ b, P[cur j]? = some b ∧ hp j = ptr b.h) (a : Nat) (b b' : HB) (hP : P[a]? = some b) (he : b'.h = b.h) : ∀ j, j < 4 → ∃ b, (P.set a b')[cur j]? = some b ∧ hp j = ptr b.h := fun j hj => by
  obtain ⟨c, h1, h2⟩ := hh j hj
  rw [List.getElem?_set]
  by_cases e : a = cur j
  · subst e
    rw [hP] at h1
    injection h1 with h1
    subst h1
    rw [if_pos rfl, if_pos (List.getElem?_eq_some_iff.1 hP).1]
    exact ⟨b', rfl, by rw [h2, he]⟩
  · rw [if_neg e]
    exact ⟨c, h1, h2⟩
theorem LQ.row (L : LQ S l P A gp hp cur) (a : Nat) (b b' : HB) (hP : P[a]? = some b) (he : b'.h = b.h) : LQ S l (P.set a b') A gp hp cur := ⟨L.life, L.inn, L.six, L.len, LQ.hps2 L.hps a b b' hP he⟩
theorem LQ.read (L : LQ S l P A gp hp cur) (hj : j < 4) (hg : l[cur j]? = some (g, x)) (hA : A[cur j]? = some h) (hi : 0 ≤ i ∧ i < 6) (he : x.read S i = (v, e, S', x')) : LQ S' (l.set (cur j) (g, x')) P (A.set (cur j) (h.didRead i v e)) gp hp cur ∧ (e = 0 → gt h.wr i ≠ none → gt h.wr i = some v) := by
  obtain ⟨X, Ph, V, Pb, hl, hX⟩ := L.life
  obtain ⟨e1, e2, e3⟩ := LQ.link (x' := x') hX hl.inj hj hg
  obtain ⟨p, hl2, h2⟩ := hl.readAny hj hA i
  have hlen := read_len S x i
  rw [e1, he] at hl2 h2
  rw [he] at hlen
  exact ⟨⟨⟨_, _, _, _, hl2, e3⟩, L.inn.set _ ((L.inn _ _ hA).didRead hi v e), by rw [← L.six]; exact hlen, by simp [L.len], L.hps⟩, h2⟩
theorem LQ.write (L : LQ S l P A gp hp cur) (hj : j < 4) (hg : l[cur j]? = some (g, x)) (hA : A[cur j]? = some h) (hi : 0 ≤ i ∧ i < 6) (he : x.write S i v = (e, x')) : LQ S (l.set (cur j) (g, x')) P (A.set (cur j) (h.didWrite i v e)) gp hp cur := by
  obtain ⟨X, Ph, V, Pb, hl, hX⟩ := L.life
  obtain ⟨e1, e2, e3⟩ := LQ.link (x' := x') hX hl.inj hj hg
  have hl2 := hl.writeAny hj hA i v
  rw [e1, he] at hl2
  exact ⟨⟨_, _, _, _, hl2, e3⟩, L.inn.set _ ((L.inn _ _ hA).didWrite hi v e), L.six, by simp [L.len], L.hps⟩
theorem LQ.step (L : LQ S l P A gp hp cur) (hj : j < 4) (hg : l[cur j]? = some (g, x)) (hA : A[cur j]? = some h) (he : x.step S = (v, e, S', x')) : LQ S' (l.set (cur j) (g, x')) P (A.set (cur j) (h.stepped (v, e, S', x'))) gp hp cur := by
  obtain ⟨X, Ph, V, Pb, hl, hX⟩ := L.life
  obtain ⟨e1, e2, e3⟩ := LQ.link (x' := x') hX hl.inj hj hg
  obtain ⟨p, V', Pb', hl2⟩ := hl.step hj hA
  have hlen := step_len S x
  rw [e1, he] at hl2
  rw [he] at hlen
  exact ⟨⟨_, _, _, _, hl2, e3⟩, L.inn.set _ ((L.inn _ _ hA).stepped _), by rw [← L.six]; exact hlen, by simp [L.len], L.hps⟩
theorem LQ.abort (L : LQ S l P A gp hp cur) (hj : j < 4) (hg : l[cur j]? = some (g, x)) (he : x.abort S = (e, S', x')) : LQ S' (l.set (cur j) (g, x')) P A gp hp cur := by
  obtain ⟨X, Ph, V, Pb, hl, hX⟩ := L.life
  obtain ⟨e1, e2, e3⟩ := LQ.link (x' := x') hX hl.inj hj hg
  obtain ⟨p, hl2⟩ := hl.abort hj
  have hlen := abort_len S x
  rw [e1, he] at hl2
  rw [he] at hlen
  exact ⟨⟨_, _, _, _, hl2, e3⟩, L.inn, by rw [← L.six]; exact hlen, by simp [L.len], L.hps⟩
theorem over_of {p : Phs} {x : TX} (h : p.ok x) (hs : x.st = 3 ∨ x.st = 4) : p = .over := by
  cases p with
  | over => rfl
  | opn => exact absurd h (by intro k; simp [Phs.ok] at k; omega)
  | lock d r => exact absurd h (by intro k; simp [Phs.ok] at k; omega)
  | look d r => exact absurd h (by intro k; simp [Phs.ok] at k; omega)
  | pub d r => exact absurd h (by intro k; simp [Phs.ok] at k; omega)
theorem LQ.begin {b : HB} (L : LQ S l P A gp hp cur) (hj : j < 4) (hP : P.length = A.length) (hg : l[cur j]? = some (g, x)) (hs : x.st = 3 ∨ x.st = 4) (hk : S.k ≤ 1099511627776) (g' : Nat) : LQ S (l ++ [(g', X0 ((j : Int) + 1) S.k)]) (P ++ [b]) (A ++ [⟨S.k, 0, [], [], false⟩]) (upd gp j (ptr g')) (upd hp j (ptr b.h)) (upd cur j A.length) := by
  obtain ⟨X, Ph, V, Pb, hl, hX⟩ := L.life
  obtain ⟨e1, e2, e3⟩ := LQ.link (x' := x) hX hl.inj hj hg
  have hl2 := hl.begin hj (over_of (hl.inv.ok j hj) (by rw [e1]; exact hs))
  refine ⟨⟨_, _, _, _, hl2, fun i hi => ?_⟩, L.inn.snoc (Hs.In.fresh S.k hk), L.six, by simp [L.len], fun i hi => ?_⟩
  · by_cases e : i = j
    · subst e
      rw [upd_same, upd_same, upd_same]
      exact ⟨g', rfl, by rw [List.getElem?_append_right (by rw [L.len]; exact Nat.le_refl _), L.len]; simp⟩
    · rw [upd_other _ _ e, upd_other _ _ e, upd_other _ _ e]
      obtain ⟨g2, h3, h4⟩ := hX i hi
      exact ⟨g2, h3, by rw [List.getElem?_append_left (List.getElem?_eq_some_iff.1 h4).1]; exact h4⟩
  · by_cases e : i = j
    · subst e
      rw [upd_same, upd_same]
      exact ⟨b, by rw [List.getElem?_append_right (by rw [hP]; exact Nat.le_refl _), hP]; simp, rfl⟩
    · rw [upd_other _ _ e, upd_other _ _ e]
      obtain ⟨c, h1, h2⟩ := L.hps i hi
      exact ⟨c, by rw [List.getElem?_append_left (List.getElem?_eq_some_iff.1 h1).1]; exact h1, h2⟩
end
end Go.Proofs.Ytafiopjgegmfoaa.T
namespace Go.Proofs.Ytafiopjgegmfoaa.T
open Go.RowKit Go.Proofs.Ytafiopjgegmfoaa.C
def hpt (P : List HB) : List Value := P.map fun b => ptr b.h
theorem hpt_snoc (P : List HB) (b : HB) : hpt (P ++ [b]) = hpt P ++ [ptr b.h] := by simp [hpt]
/-- k of the four have begun -/
def LI (w0 u : World) (q : LP) (k : Nat) : Prop := ∃ l G P gp hp, LM w0 u q (C.M0 6) l G P (List.replicate k H0) gp hp (hpt P) ∧ l.length = k ∧ ∀ j, j < k → ∃ b g, P[j]? = some b ∧ gp j = ptr g ∧ hp j = ptr b.h ∧ l[j]? = some (g, X0 ((j : Int) + 1) 0)
/-- n histories at most, of n reads at most each -/
def Bd (A : List Hs) (n : Nat) : Prop := A.length ≤ n ∧ ∀ (a : Nat) h, A[a]? = some h → h.rd.length ≤ n
theorem Bd.set {A : List Hs} {n a : Nat} {h' : Hs} (H : Bd A n) (hr : h'.rd.length ≤ n) : Bd (A.set a h') n := ⟨by simpa using H.1, fun c g hg => by
  rw [List.getElem?_set] at hg
  split at hg
  · split at hg
    · injection hg with hg; rw [← hg]; exact hr
    · cases hg
  · exact H.2 c g hg⟩
theorem Bd.more {A : List Hs} {n : Nat} (H : Bd A n) : Bd A (n + 1) := ⟨Nat.le_succ_of_le H.1, fun a h ha => Nat.le_succ_of_le (H.2 a h ha)⟩
theorem Bd.snoc {A : List Hs} {n : Nat} {h' : Hs} (H : Bd A n) (hr : h'.rd.length ≤ n + 1) : Bd (A ++ [h']) (n + 1) := ⟨by rw [List.length_append]; have := H.1; simp; omega, fun c g hg => by
  have := List.mem_of_getElem? hg
  rcases List.mem_append.1 this with h1 | h1
  · obtain ⟨b, hb⟩ := List.getElem?_of_mem h1
    exact Nat.le_succ_of_le (H.2 b g hb)
  · rw [List.mem_singleton] at h1
    rw [h1]
    exact hr⟩
/-- behind any calls: n histories at most -/
def LR (w0 u : World) (q : LP) (n : Nat) : Prop := ∃ S l G P A gp hp cur, LM w0 u q S l G P A gp hp (hpt P) ∧ LQ S l P A gp hp cur ∧ Bd A n
theorem LI.four {w0 u : World} {q : LP} (h : LI w0 u q 4) : LR w0 u q 4 := by
  obtain ⟨l, G, P, gp, hp, hm, hl, hk⟩ := h
  refine ⟨_, l, G, P, _, gp, hp, id, hm, ⟨⟨_, _, _, _, life_new 6 4, fun j hj => ?_⟩, AllIn.new 4, by simp [C.M0], by simp [hl], fun j hj => ?_⟩, ⟨by simp, fun a h ha => by rw [(List.mem_replicate.1 (List.mem_of_getElem? ha)).2]; exact Nat.zero_le _⟩⟩
  · obtain ⟨b, g, h1, h2, h3, h4⟩ := hk j hj
    exact ⟨g, h2, h4⟩
  · obtain ⟨b, g, h1, h2, h3, h4⟩ := hk j hj
    exact ⟨b, h1, h3⟩
theorem LI.next {w0 u u' : World} {q : LP} {k : Nat} {l : List (Nat × TX)} {G G' : Nat → Prop} {P : List HB} {gp hp : Nat → Value} {g : Nat} {b : HB} (hm : LM w0 u q (C.M0 6) l G P (List.replicate k H0) gp hp (hpt P)) (hl : l.length = k) (hk : ∀ j, j < k → ∃ b g, P[j]? = some b ∧ gp j = ptr g ∧ hp j = ptr b.h ∧ l[j]? = some (g, X0 ((j : Int) + 1) 0))
    (h' : LM w0 u' q (C.M0 6) (l ++ [(g, X0 ((k : Int) + 1) (C.M0 6).k)]) G' (P ++ [b]) (List.replicate k H0 ++ [⟨(C.M0 6).k, 0, [], [], false⟩]) (upd gp k (ptr g)) (upd hp k (ptr b.h)) (hpt P ++ [ptr b.h])) : LI w0 u' q (k + 1) := by
  have hP : P.length = k := by rw [hm.hm.len]; simp
  have e : List.replicate k H0 ++ [⟨(C.M0 6).k, 0, [], [], false⟩] = List.replicate (k + 1) H0 := by rw [List.replicate_succ']; rfl
  rw [e, ← hpt_snoc] at h'
  refine ⟨_, _, _, _, _, h', by simp [hl], fun j hj => ?_⟩
  by_cases ej : j < k
  · obtain ⟨c, d, h1, h2, h3, h4⟩ := hk j ej
    rw [upd_other _ _ (by omega), upd_other _ _ (by omega)]
    exact ⟨c, d, by rw [List.getElem?_append_left (by omega)]; exact h1, h2, h3, by rw [List.getElem?_append_left (by omega)]; exact h4⟩
  · have ej' : j = k := by omega
    subst ej'
    rw [upd_same, upd_same]
    exact ⟨b, g, by rw [List.getElem?_append_right (by omega), hP]; simp, rfl, rfl, by rw [List.getElem?_append_right (by omega), hl]; simp; rfl⟩
def li6 (u : World) (m : Nat) : World := (((u.alloc (.cells #[.pointer (some ⟨m, 0, none⟩)] 38)).alloc (.cells #[.pointer none, .pointer none, .pointer none, .pointer none] 43)).alloc (.cells #[.pointer none, .pointer none, .pointer none, .pointer none] 44)).alloc (.cells #[.slice none 0 0] 23)
theorem LI.start {w0 u : World} {m gm : Nat} {G : Nat → Prop} (h : Hg w0 u m gm (C.M0 6) [] G) (l1 l2 : Nat) (hl : ∀ y, (y = l1 ∨ y = l2) → Box u y z6 24 ∧ ¬ G y) : LI w0 (li6 u m) ⟨m, gm, u.heap.size, u.heap.size + 1, u.heap.size + 1 + 1, u.heap.size + 1 + 1 + 1, l1, l2⟩ 0 := by
  have s1 : (u.alloc (.cells #[.pointer (some ⟨m, 0, none⟩)] 38)).heap.size = u.heap.size + 1 := by simp
  have s2 : ((u.alloc (.cells #[.pointer (some ⟨m, 0, none⟩)] 38)).alloc (.cells #[.pointer none, .pointer none, .pointer none, .pointer none] 43)).heap.size = u.heap.size + 1 + 1 := by simp
  have s3 : (((u.alloc (.cells #[.pointer (some ⟨m, 0, none⟩)] 38)).alloc (.cells #[.pointer none, .pointer none, .pointer none, .pointer none] 43)).alloc (.cells #[.pointer none, .pointer none, .pointer none, .pointer none] 44)).heap.size = u.heap.size + 1 + 1 + 1 := by simp
  have b1 : Box (li6 u m) u.heap.size #[ptr m] 38 := (((Box.new u _ 38).alloc _).alloc _).alloc _
  have b2 := ((Box.new (u.alloc (.cells #[.pointer (some ⟨m, 0, none⟩)] 38)) #[.pointer none, .pointer none, .pointer none, .pointer none] 43).alloc (.cells #[.pointer none, .pointer none, .pointer none, .pointer none] 44)).alloc (.cells #[.slice none 0 0] 23)
  have b3 := (Box.new ((u.alloc (.cells #[.pointer (some ⟨m, 0, none⟩)] 38)).alloc (.cells #[.pointer none, .pointer none, .pointer none, .pointer none] 43)) #[.pointer none, .pointer none, .pointer none, .pointer none] 44).alloc (.cells #[.slice none 0 0] 23)
  have b4 := Box.new (((u.alloc (.cells #[.pointer (some ⟨m, 0, none⟩)] 38)).alloc (.cells #[.pointer none, .pointer none, .pointer none, .pointer none] 43)).alloc (.cells #[.pointer none, .pointer none, .pointer none, .pointer none] 44)) #[.slice none 0 0] 23
  rw [s1] at b2
  rw [s2] at b3
  rw [s3] at b4
  have h0 := h.mm.hB
  have hG : ∀ y, u.heap.size ≤ y → ¬ G y := fun y hy hg => by have := h.lt hg; omega
  refine ⟨[], G, [], fun _ => .pointer none, fun _ => .pointer none, ⟨(((h.alloc _).alloc _).alloc _).alloc _, ⟨rfl, fun a b H hp => by simp at hp, fun a a' b b' hp => by simp at hp⟩, b2, b3, b1, ⟨.slice none 0 0, b4, World.ownsRow_nil _ _ _ _, fun k hk => by cases hk⟩, ⟨hG _ (by show u.heap.size ≤ u.heap.size + 1; omega), hG _ (by show u.heap.size ≤ u.heap.size + 1 + 1; omega), hG _ (Nat.le_refl _), hG _ (by show u.heap.size ≤ u.heap.size + 1 + 1 + 1; omega)⟩, fun y hy => ⟨((((hl y hy).1.alloc _).alloc _).alloc _).alloc _, (hl y hy).2⟩, ⟨by show w0.heap.size ≤ u.heap.size + 1; omega, by show w0.heap.size ≤ u.heap.size + 1 + 1; omega, h0, by show w0.heap.size ≤ u.heap.size + 1 + 1 + 1; omega⟩⟩, rfl, fun j hj => by omega⟩
end Go.Proofs.Ytafiopjgegmfoaa.T
namespace Go.Proofs.Ytafiopjgegmfoaa.T
open Go.RowKit Go.Proofs.Ytafiopjgegmfoaa.C
section
variable {w0 u u' : World} {q : LP} {S S' : M} {l : List (Nat × TX)} {G : Nat → Prop} {P : List HB} {A : List Hs} {gp hp : Nat → Value} {cur : Nat → Nat} {n j g : Nat} {x x' : TX} {h : Hs} {b : HB} {v e i : Int}
theorem LM.below (hm : LM w0 u q S l G P A gp hp (hpt P)) (hb : Below u.heap.size u u') : LM w0 u' q S l G P A gp hp (hpt P) := by
  obtain ⟨av, b1, b2, b3⟩ := hm.ba
  exact ⟨hm.hg.below hb, hm.hm.below hb, hm.bt.below hb hm.bt.lt, hm.bh.below hb hm.bh.lt, hm.bm.below hb hm.bm.lt, ⟨av, b1.below hb b1.lt, ownsRow_below b2 hb.block, b3⟩, hm.out, fun y hy => ⟨(hm.bl y hy).1.below hb (hm.bl y hy).1.lt, (hm.bl y hy).2⟩, hm.lo⟩
theorem hpt_set (hP : P[n]? = some b) (b' : HB) (he : b'.h = b.h) : hpt (P.set n b') = hpt P := by
  apply List.ext_getElem?
  intro k
  unfold hpt
  rw [List.getElem?_map, List.getElem?_map, List.getElem?_set]
  by_cases e : n = k
  · subst e
    rw [if_pos rfl, if_pos (List.getElem?_eq_some_iff.1 hP).1, hP]
    simp [he]
  · rw [if_neg e]
/-- a read that is not set down -/
theorem LR.readNo (hm : LM w0 u q S l G P A gp hp (hpt P)) (hq : LQ S l P A gp hp cur) (hn : Bd A n) (hj : j < 4) (hg : l[cur j]? = some (g, x)) (hA : A[cur j]? = some h) (hi : 0 ≤ i ∧ i < 6) (he : x.read S i = (v, e, S', x')) (t : ToG w0 u q.m q.gm S' (l.set (cur j) (g, x')) G (fun _ => False) u') (hno : ¬ (e = 0 ∧ gt h.wr i = none)) : LR w0 u' q n := by
  have hq2 := (hq.read hj hg hA hi he).1
  have e1 : h.didRead i v e = h := by unfold Hs.didRead; rw [if_neg hno]
  rw [e1, set_self hA] at hq2
  exact ⟨_, _, _, _, _, _, _, _, hm.call t, hq2, hn⟩
/-- a read that is set down -/
theorem LR.readYes {u6 u7 : World} {rv' : Value} (hm : LM w0 u q S l G P A gp hp (hpt P)) (hq : LQ S l P A gp hp cur) (hn : Bd A n) (hj : j < 4) (hg : l[cur j]? = some (g, x)) (hA : A[cur j]? = some h) (hP : P[cur j]? = some b) (hi : 0 ≤ i ∧ i < 6) (he : x.read S i = (v, 0, S', x')) (t : ToG w0 u q.m q.gm S' (l.set (cur j) (g, x')) G (fun _ => False) u') (hno : gt h.wr i = none)
    (h6 : Below u'.heap.size u' u6) (hgr : u6.grownBy u7 b.rv.ownBlock) (hr : u7.ownsRow w0.heap.size 35 2 rv' (h.rd.length + 1) (rcs h.rd ++ [.int .i64 i, .int .i64 v])) (hv : ∀ k, rv'.ownBlock = some k → b.rv.ownBlock = some k ∨ u'.heap.size ≤ k) : LR w0 (u7.setCell ⟨b.h, 2, none⟩ rv') q (n + 1) := by
  have hq2 := (hq.read hj hg hA hi he).1
  have e1 : h.didRead i v 0 = { h with rd := h.rd ++ [(i, v)] } := by unfold Hs.didRead; rw [if_pos ⟨rfl, hno⟩]
  rw [e1] at hq2
  have hm2 := (hm.call t).got hP hA (i, v) h6 hgr hr hv
  rw [← hpt_set hP ⟨b.h, b.mb, rv'⟩ rfl] at hm2
  exact ⟨_, _, _, _, _, _, _, _, hm2, hq2.row (cur j) b ⟨b.h, b.mb, rv'⟩ hP rfl, hn.more.set (by show (h.rd ++ [(i, v)]).length ≤ n + 1; have := hn.2 _ _ hA; rw [List.length_append]; simp; omega)⟩
/-- a write -/
theorem LR.writeNo (hm : LM w0 u q S l G P A gp hp (hpt P)) (hq : LQ S l P A gp hp cur) (hn : Bd A n) (hj : j < 4) (hg : l[cur j]? = some (g, x)) (hA : A[cur j]? = some h) (hi : 0 ≤ i ∧ i < 6) (he : x.write S i v = (e, x')) (t : ToG w0 u q.m q.gm S (l.set (cur j) (g, x')) G (fun _ => False) u') (hno : e ≠ 0) : LR w0 u' q n := by
  have hq2 := hq.write hj hg hA hi he
  have e1 : h.didWrite i v e = h := by unfold Hs.didWrite; rw [if_neg hno]
  rw [e1, set_self hA] at hq2
  exact ⟨_, _, _, _, _, _, _, _, hm.call t, hq2, hn⟩
theorem LR.writeYes (hm : LM w0 u q S l G P A gp hp (hpt P)) (hq : LQ S l P A gp hp cur) (hn : Bd A n) (hj : j < 4) (hg : l[cur j]? = some (g, x)) (hA : A[cur j]? = some h) (hP : P[cur j]? = some b) (hi : 0 ≤ i ∧ i < 6) (he : x.write S i v = (0, x')) (t : ToG w0 u q.m q.gm S (l.set (cur j) (g, x')) G (fun _ => False) u') : ∃ w', (Instr.mapUpdate 30 (.map (some b.mb)) (.int .i64 i) (.int .i64 v)).run Try.prog u' = .ok () w' ∧ LR w0 w' q n := by
  have hq2 := hq.write hj hg hA hi he
  have e1 : h.didWrite i v 0 = { h with wr := pt h.wr i v } := by unfold Hs.didWrite; rw [if_pos rfl]
  rw [e1] at hq2
  have hin := hq.inn _ _ hA
  have hl6 : h.wr.length ≤ 6 := by
    have := nodup_len 6 (kys h.wr) hin.1 (fun k hk => hin.2 k hk)
    rwa [kys_len] at this
  obtain ⟨w', hr, hm2⟩ := (hm.call t).wrote hP hA i hi hl6 v
  exact ⟨w', hr, _, _, _, _, _, _, _, _, hm2, hq2, hn.set (show h.rd.length ≤ n from hn.2 _ _ hA)⟩
/-- a step -/
theorem LR.stepNo (hm : LM w0 u q S l G P A gp hp (hpt P)) (hq : LQ S l P A gp hp cur) (hn : Bd A n) (hj : j < 4) (hg : l[cur j]? = some (g, x)) (hA : A[cur j]? = some h) (he : x.step S = (v, e, S', x')) (t : ToG w0 u q.m q.gm S' (l.set (cur j) (g, x')) G (fun _ => False) u') (hno : ¬ (v = 3 ∧ h.done = false)) : LR w0 u' q n := by
  have hq2 := hq.step hj hg hA he
  have e1 : h.stepped (v, e, S', x') = h := by unfold Hs.stepped; rw [if_neg hno]
  rw [e1, set_self hA] at hq2
  exact ⟨_, _, _, _, _, _, _, _, hm.call t, hq2, hn⟩
theorem LR.stepYes (hm : LM w0 u q S l G P A gp hp (hpt P)) (hq : LQ S l P A gp hp cur) (hn : Bd A n) (hj : j < 4) (hg : l[cur j]? = some (g, x)) (hA : A[cur j]? = some h) (hP : P[cur j]? = some b) (he : x.step S = (3, e, S', x')) (t : ToG w0 u q.m q.gm S' (l.set (cur j) (g, x')) G (fun _ => False) u') (hno : h.done = false) : LR w0 ((u'.setCell ⟨b.h, 4, none⟩ (.bool true)).setCell ⟨b.h, 1, none⟩ (.int .i64 x'.ver)) q n := by
  have hq2 := hq.step hj hg hA he
  have e1 : h.stepped (3, e, S', x') = { h with done := true, ver := x'.ver } := by unfold Hs.stepped; rw [if_pos ⟨rfl, hno⟩]
  rw [e1] at hq2
  exact ⟨_, _, _, _, _, _, _, _, (hm.call t).fin hP hA x'.ver, hq2, hn.set (show h.rd.length ≤ n from hn.2 _ _ hA)⟩
/-- an abort -/
theorem LR.aborted (hm : LM w0 u q S l G P A gp hp (hpt P)) (hq : LQ S l P A gp hp cur) (hn : Bd A n) (hj : j < 4) (hg : l[cur j]? = some (g, x)) (he : x.abort S = (e, S', x')) (t : ToG w0 u q.m q.gm S' (l.set (cur j) (g, x')) G (fun _ => False) u') : LR w0 u' q n := ⟨_, _, _, _, _, _, _, _, hm.call t, hq.abort hj hg he, hn⟩
/-- one begins anew -/
theorem LR.anew {G' : Nat → Prop} {g' : Nat} (hm : LM w0 u q S l G P A gp hp (hpt P)) (hq : LQ S l P A gp hp cur) (hn : Bd A n) (hj : j < 4) (hg : l[cur j]? = some (g, x)) (hs : x.st = 3 ∨ x.st = 4) (h' : LM w0 u' q S (l ++ [(g', X0 ((j : Int) + 1) S.k)]) G' (P ++ [b]) (A ++ [⟨S.k, 0, [], [], false⟩]) (upd gp j (ptr g')) (upd hp j (ptr b.h)) (hpt P ++ [ptr b.h])) : LR w0 u' q (n + 1) := by
  rw [← hpt_snoc] at h'
  exact ⟨_, _, _, _, _, _, _, _, h', hq.begin hj hm.hm.len hg hs hm.hg.mm.is.rt.k1 g', hn.snoc (Nat.zero_le _)⟩
theorem LR.more (h : LR w0 u q n) : LR w0 u q (n + 1) := by
  obtain ⟨S, l, G, P, A, gp, hp, cur, h1, h2, h3⟩ := h
  exact ⟨S, l, G, P, A, gp, hp, cur, h1, h2, h3.more⟩
end
end Go.Proofs.Ytafiopjgegmfoaa.T
namespace Go.Proofs.Ytafiopjgegmfoaa.T
open Go.RowKit Go.Proofs.Ytafiopjgegmfoaa.C
/-- the first k are over; the k-th is over within d steps, where d is told -/
structure LE (S : M) (l : List (Nat × TX)) (P : List HB) (A : List Hs) (gp hp : Nat → Value) (cur : Nat → Nat) (k : Nat) (c : Option Nat) : Prop where
  life : ∃ X Ph V Pb, Life S 4 X Ph V Pb A cur ∧ (∀ j, j < 4 → ∃ g, gp j = ptr g ∧ l[cur j]? = some (g, X j)) ∧ (∀ i, i < k → Ph i = .over) ∧ ∀ d, c = some d → (Ph k).near d
  inn : AllIn A
  six : S.C.length = 6
  len : l.length = A.length
  hps : ∀ j, j < 4 → ∃ b, P[cur j]? = some b ∧ hp j = ptr b.h
section
variable {S S' : M} {l : List (Nat × TX)} {P : List HB} {A : List Hs} {gp hp : Nat → Value} {cur : Nat → Nat} {k g d : Nat} {c : Option Nat} {x x' : TX} {h : Hs} {v e : Int}
theorem LQ.toLE (L : LQ S l P A gp hp cur) : LE S l P A gp hp cur 0 none := by
  obtain ⟨X, Ph, V, Pb, hl, hX⟩ := L.life
  exact ⟨⟨X, Ph, V, Pb, hl, hX, fun i hi => by omega, fun d hd => by cases hd⟩, L.inn, L.six, L.len, L.hps⟩
theorem LE.toLQ (L : LE S l P A gp hp cur k c) : LQ S l P A gp hp cur := by
  obtain ⟨X, Ph, V, Pb, hl, hX, _⟩ := L.life
  exact ⟨⟨X, Ph, V, Pb, hl, hX⟩, L.inn, L.six, L.len, L.hps⟩
theorem LE.abort (L : LE S l P A gp hp cur k none) (hk : k < 4) (hg : l[cur k]? = some (g, x)) (he : x.abort S = (e, S', x')) : (e = 0 ∧ LE S' (l.set (cur k) (g, x')) P A gp hp cur (k + 1) none) ∨ (e = 132 ∧ LE S' (l.set (cur k) (g, x')) P A gp hp cur k (some 6)) := by
  obtain ⟨X, Ph, V, Pb, hl, hX, hov, _⟩ := L.life
  obtain ⟨e1, e2, e3⟩ := LQ.link (x' := x') hX hl.inj hk hg
  have hlen := abort_len S x
  rw [he] at hlen
  have hab := hl.abortEnd hk
  rw [e1, he] at hab
  rcases hab with ⟨h0, hl2⟩ | ⟨h0, hS, hx, hn⟩
  · refine .inl ⟨h0, ⟨⟨_, _, _, _, hl2, e3, fun i hi => ?_, fun d hd => by cases hd⟩, L.inn, by rw [← L.six]; exact hlen, by simp [L.len], L.hps⟩⟩
    by_cases ei : i = k
    · subst ei; exact upd_same _ _ _
    · rw [upd_other _ _ ei]; exact hov i (by omega)
  · dsimp only at hS hx h0
    subst hS hx
    have hw := Ws_len hl.inv hk
    rw [L.six, e1] at hw
    refine .inr ⟨h0, ?_⟩
    rw [set_self hg]
    refine ⟨⟨X, Ph, V, Pb, hl, hX, hov, fun d hd => ?_⟩, L.inn, L.six, L.len, L.hps⟩
    cases hd
    rcases hn with hn | ⟨d', r, h1, h2⟩
    · exact .inl hn
    · exact .inr ⟨d', r, h1, Nat.le_trans h2 hw⟩
theorem LE.step (L : LE S l P A gp hp cur k (some d)) (hk : k < 4) (hg : l[cur k]? = some (g, x)) (hA : A[cur k]? = some h) (he : x.step S = (v, e, S', x')) : LE S' (l.set (cur k) (g, x')) P (A.set (cur k) (h.stepped (v, e, S', x'))) gp hp cur k (some (d - 1)) := by
  obtain ⟨X, Ph, V, Pb, hl, hX, hov, hn⟩ := L.life
  obtain ⟨e1, e2, e3⟩ := LQ.link (x' := x') hX hl.inj hk hg
  obtain ⟨p, V', Pb', hp, hl2⟩ := hl.stepNear hk hA (hn d rfl)
  have hlen := step_len S x
  rw [e1, he] at hl2
  rw [he] at hlen
  refine ⟨⟨_, _, _, _, hl2, e3, fun i hi => ?_, fun d' hd => ?_⟩, L.inn.set _ ((L.inn _ _ hA).stepped _), by rw [← L.six]; exact hlen, by simp [L.len], L.hps⟩
  · rw [upd_other _ _ (by omega)]; exact hov i hi
  · cases hd
    rw [upd_same]
    exact hp
theorem LE.next (L : LE S l P A gp hp cur k (some 0)) (hk : k < 4) : LE S l P A gp hp cur (k + 1) none := by
  obtain ⟨X, Ph, V, Pb, hl, hX, hov, hn⟩ := L.life
  refine ⟨⟨X, Ph, V, Pb, hl, hX, fun i hi => ?_, fun d hd => by cases hd⟩, L.inn, L.six, L.len, L.hps⟩
  by_cases ei : i = k
  · subst ei; exact hl.near0 hk (hn 0 rfl)
  · exact hov i (by omega)
end
end Go.Proofs.Ytafiopjgegmfoaa.T
namespace Go.Proofs.Ytafiopjgegmfoaa.T
open Go.RowKit Go.Proofs.Ytafiopjgegmfoaa.C
theorem kitPick_at (n m : Int) (w : World) (h1 : 1 ≤ m) (h2 : m ≤ 1000) : Calls Try.prog 12 #[.int .i64 n, .int .i64 m] w fun r w' => r = .returned (.int .i64 (n % m)) ∧ w' = w := by
  have e1 : n.tmod m = if 0 ≤ n ∨ n % m = 0 then n % m else n % m - m := by
    by_cases h : 0 ≤ n
    · rw [if_pos (.inl h), Int.tmod_eq_emod_of_nonneg h]
    · have := Int.tmod_eq_emod (a := n) (b := m)
      rw [this]
      have hd : m ∣ n ↔ n % m = 0 := Int.dvd_iff_emod_eq_zero
      by_cases h0 : n % m = 0
      · rw [if_pos (.inr (hd.2 h0)), if_pos (.inr h0)]; omega
      · rw [if_neg (by rintro (h' | h'); exact h h'; exact h0 (hd.1 h')), if_neg (by rintro (h' | h'); exact h h'; exact h0 h')]
        omega
  have hz0 : 0 ≤ n % m := Int.emod_nonneg _ (by omega)
  have hz1 : n % m < m := Int.emod_lt_of_pos _ (by omega)
  have hnz : ¬ (m = 0) := by omega
  have hm1 : ¬ (m < 1) := by omega
  generalize hz : n % m = z at *
  generalize hy : n.tmod m = y at *
  by_cases hc : 0 ≤ n ∨ z = 0
  · rw [if_pos hc] at e1
    subst e1
    have hyl : ¬ y < 0 := by omega
    go_enter Try.func12, Try.ntmps12
    go_wp2
    go_ret
    simp
  · rw [if_neg hc] at e1
    have hyl : y < 0 := by omega
    have hs : y + m = z := by omega
    have hs2 : y = z - m := e1
    clear e1 hc
    subst hs2
    go_enter Try.func12, Try.ntmps12
    go_wp2
    go_ret
    simp

end Go.Proofs.Ytafiopjgegmfoaa.T
namespace Go.Proofs.Ytafiopjgegmfoaa.T
open Go.RowKit Go.Proofs.Ytafiopjgegmfoaa.C
/-- the first k are over; the k-th is over within d steps, where d is told -/
def LG (w0 u : World) (q : LP) (n k : Nat) (c : Option Nat) : Prop := ∃ S l G P A gp hp cur, LM w0 u q S l G P A gp hp (hpt P) ∧ LE S l P A gp hp cur k c ∧ Bd A n
section
variable {w0 u u' : World} {q : LP} {S S' : M} {l : List (Nat × TX)} {G : Nat → Prop} {P : List HB} {A : List Hs} {gp hp : Nat → Value} {cur : Nat → Nat} {n k g d : Nat} {c : Option Nat} {x x' : TX} {h : Hs} {b : HB} {v e : Int}
theorem LR.toLG (h : LR w0 u q n) : LG w0 u q n 0 none := by
  obtain ⟨S, l, G, P, A, gp, hp, cur, h1, h2, h3⟩ := h
  exact ⟨S, l, G, P, A, gp, hp, cur, h1, h2.toLE, h3⟩
/-- what one call wants of it -/
theorem LE.at (L : LE S l P A gp hp cur k c) (hk : k < 4) : ∃ g x h b, gp k = ptr g ∧ l[cur k]? = some (g, x) ∧ A[cur k]? = some h ∧ P[cur k]? = some b ∧ hp k = ptr b.h := L.toLQ.at hk
theorem LG.abort (hm : LM w0 u q S l G P A gp hp (hpt P)) (L : LE S l P A gp hp cur k none) (hn : Bd A n) (hk : k < 4) (hg : l[cur k]? = some (g, x)) (he : x.abort S = (e, S', x')) (t : ToG w0 u q.m q.gm S' (l.set (cur k) (g, x')) G (fun _ => False) u') : (e = 0 ∧ LG w0 u' q n (k + 1) none) ∨ (e = 132 ∧ LG w0 u' q n k (some 20)) := by
  rcases L.abort hk hg he with ⟨h0, h1⟩ | ⟨h0, h1⟩
  · exact .inl ⟨h0, _, _, _, _, _, _, _, _, hm.call t, h1, hn⟩
  · obtain ⟨X, Ph, V, Pb, a1, a2, a3, a4⟩ := h1.life
    refine .inr ⟨h0, _, _, _, _, _, _, _, _, hm.call t, ⟨⟨X, Ph, V, Pb, a1, a2, a3, fun d hd => ?_⟩, h1.inn, h1.six, h1.len, h1.hps⟩, hn⟩
    cases hd
    rcases a4 6 rfl with h | ⟨d', r, h2, h3⟩
    · exact .inl h
    · exact .inr ⟨d', r, h2, Nat.le_trans h3 (by omega)⟩
theorem LG.stepNo (hm : LM w0 u q S l G P A gp hp (hpt P)) (L : LE S l P A gp hp cur k (some d)) (hn : Bd A n) (hk : k < 4) (hg : l[cur k]? = some (g, x)) (hA : A[cur k]? = some h) (he : x.step S = (v, e, S', x')) (t : ToG w0 u q.m q.gm S' (l.set (cur k) (g, x')) G (fun _ => False) u') (hno : ¬ (v = 3 ∧ h.done = false)) : LG w0 u' q n k (some (d - 1)) := by
  have hq2 := L.step hk hg hA he
  have e1 : h.stepped (v, e, S', x') = h := by unfold Hs.stepped; rw [if_neg hno]
  rw [e1, set_self hA] at hq2
  exact ⟨_, _, _, _, _, _, _, _, hm.call t, hq2, hn⟩
theorem LG.stepYes (hm : LM w0 u q S l G P A gp hp (hpt P)) (L : LE S l P A gp hp cur k (some d)) (hn : Bd A n) (hk : k < 4) (hg : l[cur k]? = some (g, x)) (hA : A[cur k]? = some h) (hP : P[cur k]? = some b) (he : x.step S = (3, e, S', x')) (t : ToG w0 u q.m q.gm S' (l.set (cur k) (g, x')) G (fun _ => False) u') (hno : h.done = false) : LG w0 ((u'.setCell ⟨b.h, 4, none⟩ (.bool true)).setCell ⟨b.h, 1, none⟩ (.int .i64 x'.ver)) q n k (some (d - 1)) := by
  have hq2 := L.step hk hg hA he
  have e1 : h.stepped (3, e, S', x') = { h with done := true, ver := x'.ver } := by unfold Hs.stepped; rw [if_pos ⟨rfl, hno⟩]
  rw [e1] at hq2
  exact ⟨_, _, _, _, _, _, _, _, (hm.call t).fin hP hA x'.ver, hq2, hn.set (show h.rd.length ≤ n from hn.2 _ _ hA)⟩
theorem LG.next (h : LG w0 u q n k (some 0)) (hk : k < 4) : LG w0 u q n (k + 1) none := by
  obtain ⟨S, l, G, P, A, gp, hp, cur, h1, h2, h3⟩ := h
  exact ⟨S, l, G, P, A, gp, hp, cur, h1, h2.next hk, h3⟩
theorem LG.drew (h : LG w0 u q n k c) : LG w0 u.drew q n k c := by
  obtain ⟨S, l, G, P, A, gp, hp, cur, h1, h2, h3⟩ := h
  exact ⟨S, l, G, P, A, gp, hp, cur, h1.below ⟨rfl, rfl, rfl, Nat.le_refl _, fun _ _ => rfl⟩, h2, h3⟩
end
/-- the values of the cells, the first k of them; noughts behind -/
def valsTo (S : M) (k : Nat) : Array Value := #[if 0 < k then (S.C.getD 0 ⟨.int .i64 0, 0, 0⟩).v else .int .i64 0, if 1 < k then (S.C.getD 1 ⟨.int .i64 0, 0, 0⟩).v else .int .i64 0, if 2 < k then (S.C.getD 2 ⟨.int .i64 0, 0, 0⟩).v else .int .i64 0, if 3 < k then (S.C.getD 3 ⟨.int .i64 0, 0, 0⟩).v else .int .i64 0, if 4 < k then (S.C.getD 4 ⟨.int .i64 0, 0, 0⟩).v else .int .i64 0, if 5 < k then (S.C.getD 5 ⟨.int .i64 0, 0, 0⟩).v else .int .i64 0]
theorem valsTo_zero (S : M) : valsTo S 0 = z6 := rfl
theorem valsTo_set (S : M) (k : Nat) (hk : k < 6) : (valsTo S k).setIfInBounds k (S.C.getD k ⟨.int .i64 0, 0, 0⟩).v = valsTo S (k + 1) := by
  have : k = 0 ∨ k = 1 ∨ k = 2 ∨ k = 3 ∨ k = 4 ∨ k = 5 := by omega
  rcases this with rfl | rfl | rfl | rfl | rfl | rfl <;> rfl
/-- all that 'lived' leaves -/
structure LDone (w0 u : World) (av : Value) (S : M) (A : List Hs) : Prop where
  mem : ∃ G P, Hm u w0.heap.size G P A ∧ u.ownsRow w0.heap.size 28 1 av (hpt P).length (hpt P)
  life : ∃ l P gp hp cur, LE S l P A gp hp cur 4 none
  num : Num S
  le : A.length ≤ 304
  bel : Below w0.heap.size w0 u
  rt : Rt S
  rdl : ∀ (a : Nat) h, A[a]? = some h → h.rd.length ≤ 304
theorem LDone.below {w0 u u' : World} {av : Value} {S : M} {A : List Hs} (h : LDone w0 u av S A) (hb : Below u.heap.size u u') : LDone w0 u' av S A := by
  obtain ⟨G, P, h1, h2⟩ := h.mem
  exact ⟨⟨G, P, h1.below hb, ownsRow_below h2 hb.block⟩, h.life, h.num, h.le, h.bel.trans (hb.mono h.bel.size), h.rt, h.rdl⟩
def six (u : World) (b : Nat) (y0 y1 y2 y3 y4 y5 : Value) : World := (((((u.setCell ⟨b, 0, none⟩ y0).setCell ⟨b, 1, none⟩ y1).setCell ⟨b, 2, none⟩ y2).setCell ⟨b, 3, none⟩ y3).setCell ⟨b, 4, none⟩ y4).setCell ⟨b, 5, none⟩ y5
theorem six_grown (u : World) (b : Nat) (y0 y1 y2 y3 y4 y5 : Value) : u.grownBy (six u b y0 y1 y2 y3 y4 y5) (some b) :=
  grown_trans (grown_trans (grown_trans (grown_trans (grown_trans (grown_store u b 0 y0) (grown_store _ b 1 y1)) (grown_store _ b 2 y2)) (grown_store _ b 3 y3)) (grown_store _ b 4 y4)) (grown_store _ b 5 y5)
theorem six_box {u : World} {b : Nat} (h : Box u b z6 24) (y0 y1 y2 y3 y4 y5 : Value) : Box (six u b y0 y1 y2 y3 y4 y5) b #[y0, y1, y2, y3, y4, y5] 24 := by
  have := (((((h.store 0 y0).store 1 y1).store 2 y2).store 3 y3).store 4 y4).store 5 y5
  exact this
theorem LM.done {w0 u4 u u' : World} {q : LP} {S : M} {l : List (Nat × TX)} {G : Nat → Prop} {P : List HB} {A : List Hs} {gp hp : Nat → Value} {cur : Nat → Nat} {aa : Option Addr} {cc : Nat} (hm : LM w0 u4 q S l G P A gp hp (hpt P)) (hq : LE S l P A gp hp cur 4 none) (hA : Bd A 304) (hr : u4.ownsRow w0.heap.size 28 1 (.slice aa (hpt P).length cc) (hpt P).length (hpt P)) (hu : Upd (fun y => y = q.l2) u4 u) (hb : Below w0.heap.size w0 u) (hg : u.grownBy u' (some q.l1)) (h1 : w0.heap.size ≤ q.l1) : LDone w0 u' (.slice aa (hpt P).length cc) S A := by
  have bl1 := (hm.bl q.l1 (.inl rfl)).1
  have bl2 := (hm.bl q.l2 (.inr rfl)).1
  have hU : Upd (fun y => y = q.l2 ∨ y = q.l1) u4 u' := ⟨Nat.le_trans hu.1 hg.size, fun k hk hn => (hg.block k (Nat.lt_of_lt_of_le hk hu.1) (fun e => hn (.inr (by injection e)))).trans (hu.2 k hk (fun e => hn (.inl e)))⟩
  refine ⟨⟨G, P, hm.hm.upd hU (fun a b hp y hy hn => ?_) (fun _ hy => .inl hy), row_stay hr (fun k hk => ?_)⟩, ⟨l, P, gp, hp, cur, hq⟩, hm.hg.num, hA.1, hb.grown hg hb.size (fun k e => by cases e; exact h1), hm.hg.mm.is.rt, hA.2⟩
  · obtain ⟨H, ha⟩ := hm.hm.hist hp
    have o := (hm.hm.one a b H hp ha).1
    rcases hn with rfl | rfl
    · exact o.ne bl2 (by decide) (by decide) hy
    · exact o.ne bl1 (by decide) (by decide) hy
  · obtain ⟨cs, hc⟩ := ownsRow_box hr k hk
    refine hU.2 k (Box.lt hc) (fun hn => ?_)
    rcases hn with rfl | rfl
    · exact (bl2.ne hc (by decide)) rfl
    · exact (bl1.ne hc (by decide)) rfl
end Go.Proofs.Ytafiopjgegmfoaa.T
namespace Go.Proofs.Ytafiopjgegmfoaa.T
open Go.RowKit Go.Maps Go.Proofs.Ytafiopjgegmfoaa.C
set_option maxRecDepth 20000 in
theorem res5 {tmps : Array Value} {w : World} {av : Value} {l1 : Nat} {y0 y1 y2 y3 y4 y5 : Int} (h2 : tmps.getD 2 undef = av) (h3 : tmps.getD 3 undef = .pointer (some ⟨l1, 0, none⟩)) (h4 : tmps.getD 4 undef = .bool true)
    (r0 : w.cell? ⟨l1, 0, none⟩ = some (.int .i64 y0)) (r1 : w.cell? ⟨l1, 1, none⟩ = some (.int .i64 y1)) (r2 : w.cell? ⟨l1, 2, none⟩ = some (.int .i64 y2)) (r3 : w.cell? ⟨l1, 3, none⟩ = some (.int .i64 y3)) (r4 : w.cell? ⟨l1, 4, none⟩ = some (.int .i64 y4)) (r5 : w.cell? ⟨l1, 5, none⟩ = some (.int .i64 y5)) :
    (results Try.f5 tmps).run Try.prog w = .ok (.tuple #[av, .agg #[.int .i64 y0, .int .i64 y1, .int .i64 y2, .int .i64 y3, .int .i64 y4, .int .i64 y5], .bool true]) w := by
  simp only [Array.getD_eq_getD_getElem?] at h2 h3 h4
  simp [results, Try.results5, go_sem, h2, h3, h4, r0, r1, r2, r3, r4, r5]
theorem mapL_getI {w : World} {b : Nat} {L : List (Int × Int)} (h : MapL encI w b L) (k : Int) (hk : (Lit.int .i64 k).wf = true) :
    (Instr.lookup 30 (.map (some b)) (.int .i64 k) false).run Try.prog w = .ok (.int .i64 ((gt L k).getD 0)) w := by
  obtain ⟨D, h1, h2, h3⟩ := h.mp
  obtain ⟨v, ps, r, e⟩ := h1.lookup keyed3 Try.underlying30 (Try.zeroValue3 w) (show rV _ = some (.held _, []) from rfl) (key3 hk)
  rw [(h3 k hk).2] at e
  change rV v = some ((Option.map DataW.held ((gt L k).map encI)).getD (.held (.int .i64 0)), ps) at e
  rw [r]
  cases hm : gt L k with
  | none =>
    rw [hm] at e
    simp [rV] at e
    rw [e.1]
    rfl
  | some x =>
    rw [hm] at e
    simp [rV] at e
    rw [e.1]
    rfl
theorem infoG : (Try.prog.info? 35).map (fun i => (i.zero, i.size, i.bytes)) = some (some (.agg #[.int .i64 0, .int .i64 0]), 2, 16) := by kernel_rfl
end Go.Proofs.Ytafiopjgegmfoaa.T
