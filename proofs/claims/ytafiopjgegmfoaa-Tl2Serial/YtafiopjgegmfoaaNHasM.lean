/-
  Transactions over one memory, as a list, with all of their blocks told: whoever has other blocks beside them finds these as they were. Writes of transactions whose blocks are told. Step, Version, Writes of transactions whose blocks are told.
-/
import Derived.Test.YtafiopjgegmfoaaTNum
import Derived.Test.YtafiopjgegmfoaaTWr
import Derived.Test.YtafiopjgegmfoaaTStepC
import Derived.Test.YtafiopjgegmfoaaTSit
namespace Go.Proofs.Ytafiopjgegmfoaa.T
open Go.RowKit Go.Proofs.Ytafiopjgegmfoaa.C
theorem grow_not2 {F : Nat → Prop} {w w' : World} {x : Nat} (h : ¬ F x) (hx : x < w.heap.size) : ¬ grow F w w' x := fun e => e.elim h (fun e => by omega)
structure HgF (w0 u : World) (m gm : Nat) (S : M) (l : List (Nat × TX)) (G : Nat → Prop) (F : Nat → Nat → Prop) : Prop where
  mm : MM u w0.heap.size m gm S
  num : Num S
  bel : Below w0.heap.size w0 u
  gB : ∀ y, G y → w0.heap.size ≤ y ∧ y < u.heap.size
  g1 : G m
  g2 : G gm
  tx : ∀ j g x, l[j]? = some (g, x) → x.Rdy ∧ IsX u w0.heap.size g m x (F j) ∧ ¬ F j m ∧ ¬ F j gm ∧ (∀ y, F j y → G y) ∧ ∀ i, i < l.length → i ≠ j → ∀ y, F j y → ¬ F i y
/-- G: all blocks of the memory and of the transactions -/
def Hg (w0 u : World) (m gm : Nat) (S : M) (l : List (Nat × TX)) (G : Nat → Prop) : Prop := ∃ F, HgF w0 u m gm S l G F
/-- what a call leaves; V: blocks of one's own beside -/
structure ToG (w0 u : World) (m gm : Nat) (S : M) (l : List (Nat × TX)) (G V : Nat → Prop) (u' : World) : Prop where
  has : Hg w0 u' m gm S l (grow G u u')
  upd : Upd (fun k => G k ∨ V k) u u'
section
variable {w0 u u' u1 u2 : World} {m gm j g : Nat} {S S' S1 S2 : M} {l l1 l2 : List (Nat × TX)} {x x' : TX} {v e : Int} {G G' V V' : Nat → Prop}
theorem Hg.wide (h : Hg w0 u m gm S l G) (hG : ∀ y, G y → G' y) (hB : ∀ y, G' y → w0.heap.size ≤ y ∧ y < u.heap.size) : Hg w0 u m gm S l G' := by
  obtain ⟨F, h⟩ := h
  have tx : ∀ j g x, l[j]? = some (g, x) → x.Rdy ∧ IsX u w0.heap.size g m x (F j) ∧ ¬ F j m ∧ ¬ F j gm ∧ (∀ y, F j y → G' y) ∧ ∀ i, i < l.length → i ≠ j → ∀ y, F j y → ¬ F i y := fun j g x hj => by
    obtain ⟨a, b, c, d, e, f⟩ := h.tx j g x hj
    exact ⟨a, b, c, d, fun y hy => hG y (e y hy), f⟩
  exact ⟨F, { h with gB := hB, g1 := hG _ h.g1, g2 := hG _ h.g2, tx := tx }⟩
theorem Hg.lt (h : Hg w0 u m gm S l G) {y : Nat} (hy : G y) : y < u.heap.size := by
  obtain ⟨F, h⟩ := h
  exact (h.gB y hy).2
theorem Hg.gB (h : Hg w0 u m gm S l G) {y : Nat} (hy : G y) : w0.heap.size ≤ y ∧ y < u.heap.size := by
  obtain ⟨F, h⟩ := h
  exact h.gB y hy
theorem Hg.bel (h : Hg w0 u m gm S l G) : Below w0.heap.size w0 u := by
  obtain ⟨F, h⟩ := h
  exact h.bel
theorem Hg.mm (h : Hg w0 u m gm S l G) : MM u w0.heap.size m gm S := by
  obtain ⟨F, h⟩ := h
  exact h.mm
theorem Hg.num (h : Hg w0 u m gm S l G) : Num S := by
  obtain ⟨F, h⟩ := h
  exact h.num
theorem Hg.rdy (h : Hg w0 u m gm S l G) (hj : l[j]? = some (g, x)) : x.Rdy := by
  obtain ⟨F, h⟩ := h
  exact (h.tx _ _ _ hj).1
theorem Hg.ok (h : Hg w0 u m gm S l G) (hj : l[j]? = some (g, x)) : x.Ok := by
  obtain ⟨F, h⟩ := h
  exact (h.tx _ _ _ hj).2.1.ok
/-- other blocks have changed -/
theorem Hg.stay (h : Hg w0 u m gm S l G) (hb : Below w0.heap.size w0 u') (hs : u.heap.size ≤ u'.heap.size) (hG : ∀ y, G y → u'.heap[y]? = u.heap[y]?) : Hg w0 u' m gm S l G := by
  obtain ⟨F, h⟩ := h
  have tx : ∀ j g x, l[j]? = some (g, x) → x.Rdy ∧ IsX u' w0.heap.size g m x (F j) ∧ ¬ F j m ∧ ¬ F j gm ∧ (∀ y, F j y → G y) ∧ ∀ i, i < l.length → i ≠ j → ∀ y, F j y → ¬ F i y := fun j g x hj => by
    obtain ⟨a, b, c, d, e, f⟩ := h.tx j g x hj
    exact ⟨a, b.stay hs (fun y hy => hG y (e y hy)), c, d, e, f⟩
  exact ⟨F, { h with mm := h.mm.stay (hG _ h.g1) (hG _ h.g2), bel := hb, gB := fun y hy => ⟨(h.gB y hy).1, Nat.lt_of_lt_of_le (h.gB y hy).2 hs⟩, tx := tx }⟩
theorem Hg.below (h : Hg w0 u m gm S l G) (hb : Below u.heap.size u u') : Hg w0 u' m gm S l G :=
  h.stay (h.bel.trans (hb.mono h.mm.hB)) hb.size (fun y hy => hb.block y (h.lt hy))
theorem Hg.drew (h : Hg w0 u m gm S l G) (q : Nat) : Hg w0 (u.drewN q) m gm S l G := h.below ⟨rfl, rfl, rfl, Nat.le_refl _, fun _ _ => rfl⟩
theorem Hg.alloc (h : Hg w0 u m gm S l G) (o : Obj) : Hg w0 (u.alloc o) m gm S l G := h.below ((Below.refl _ _).alloc (Nat.le_refl _) o)
theorem Hg.store (h : Hg w0 u m gm S l G) {k : Nat} (hk : ¬ G k) (h0 : w0.heap.size ≤ k) (i : Nat) (y : Value) : Hg w0 (u.setCell ⟨k, i, none⟩ y) m gm S l G :=
  h.stay (h.bel.grown (grown_store u k i y) h.mm.hB (fun q e => by cases e; exact h0)) (by simp) (fun z hz => heap_setCell_other u ⟨k, i, none⟩ z y (fun e => hk (by have e' : z = k := e; rw [← e']; exact hz)))
theorem ToG.wide (h : ToG w0 u m gm S l G V u') (hV : ∀ k, V k → V' k) : ToG w0 u m gm S l G V' u' := ⟨h.has, h.upd.1, fun k hk hn => h.upd.2 k hk (fun e => hn (e.imp id (hV k)))⟩
theorem ToG.refl (h : Hg w0 u m gm S l G) : ToG w0 u m gm S l G V u := ⟨h.wide (fun _ hy => .inl hy) (fun y hy => hy.elim h.gB (fun e => by omega)), Upd.refl _ _⟩
theorem ToG.trans (h : ToG w0 u m gm S1 l1 G V u1) (k : ToG w0 u1 m gm S2 l2 (grow G u u1) V u2) : ToG w0 u m gm S2 l2 G V u2 :=
  ⟨k.has.wide (fun y hy => (grow_trans h.upd.1 k.upd.1 y).1 hy) (fun y hy => k.has.gB ((grow_trans h.upd.1 k.upd.1 y).2 hy)), h.upd.trans k.upd (fun y hy => by
    rcases hy with (hy | hy) | hy
    · exact .inl (.inl hy)
    · exact .inr hy.1
    · exact .inl (.inr hy))⟩
/-- from a greater set on: what is new in it was not there -/
theorem ToG.base (k : ToG w0 u1 m gm S l G' V' u2) (hu : Upd (fun k => G k ∨ V k) u u1) (h0 : w0.heap.size ≤ u.heap.size) (hG : ∀ y, G' y → G y ∨ u.heap.size ≤ y) (hG2 : ∀ y, G y → G' y) (hV : ∀ y, V' y → V y ∨ u.heap.size ≤ y) : ToG w0 u m gm S l G V u2 :=
  ⟨k.has.wide (fun y hy => by
    rcases hy with hy | hy
    · rcases hG y hy with h | h
      · exact .inl h
      · exact .inr ⟨h, k.has.lt (.inl hy)⟩
    · exact .inr ⟨Nat.le_trans hu.1 hy.1, hy.2⟩) (fun y hy => by
    rcases hy with hy | hy
    · exact k.has.gB (.inl (hG2 y hy))
    · exact ⟨Nat.le_trans h0 hy.1, hy.2⟩), hu.trans k.upd (fun y hy => by
    rcases hy with hy | hy
    · exact (hG y hy).imp .inl id
    · exact (hV y hy).imp .inr id)⟩
theorem ToG.gB (h : ToG w0 u m gm S l G V u') : Below w0.heap.size w0 u' := h.has.bel
theorem Hg.call {F : Nat → Nat → Prop} (h : HgF w0 u m gm S l G F) (hj : l[j]? = some (g, x)) (ht : ToX u w0.heap.size g m gm S' x' (F j) u') (hN : Num S') (hr : x'.Rdy) : ToG w0 u m gm S' (l.set j (g, x')) G V u' := by
  obtain ⟨a, b, c, d, e, f⟩ := h.tx j g x hj
  have hl : j < l.length := (List.getElem?_eq_some_iff.1 hj).1
  refine ⟨⟨upd F j (grow (F j) u u'), { mm := ht.mm, num := hN, bel := h.bel.trans ht.bel, gB := grow_lt h.gB h.mm.hB ht.upd.1, g1 := .inl h.g1, g2 := .inl h.g2, tx := fun i g' y hi => ?_ }⟩, ht.upd.1, fun k hk hn => ht.upd.2 k hk (fun hx => hn (.inl ?_))⟩
  · rw [List.getElem?_set] at hi
    by_cases ei : j = i
    · subst ei
      rw [if_pos rfl, if_pos hl] at hi
      injection hi with hi
      injection hi with h1 h2
      subst h1 h2
      rw [upd_same]
      refine ⟨hr, ht.tx, grow_not2 c h.mm.lt.1.2, grow_not2 d h.mm.lt.2.2, fun y hy => hy.imp (e y) id, fun i hi hij y hy => ?_⟩
      rw [List.length_set] at hi
      rw [upd_other _ _ hij]
      intro hf
      rcases hy with hy | hy
      · exact f i hi hij y hy hf
      · have := ((h.tx i _ _ (List.getElem?_eq_getElem hi)).2.1.fB y hf).2
        omega
    · rw [if_neg ei] at hi
      obtain ⟨a', b', c', d', e', f'⟩ := h.tx i g' y hi
      have ei' : i ≠ j := fun h => ei h.symm
      rw [upd_other _ _ ei']
      refine ⟨a', b'.upd ht.upd (fun z hz hn => ?_), c', d', fun z hz => .inl (e' z hz), fun k hk hki z hz => ?_⟩
      · rcases hn with hn | rfl | rfl
        · exact f' j hl ei z hz hn
        · exact c' hz
        · exact d' hz
      · rw [List.length_set] at hk
        by_cases ek : k = j
        · subst ek
          rw [upd_same]
          intro hg
          rcases hg with hg | hg
          · exact f' k hk hki z hz hg
          · have := (b'.fB z hz).2
            omega
        · rw [upd_other _ _ ek]
          exact f' k hk hki z hz
  · rcases hx with hx | rfl | rfl
    · exact e k hx
    · exact h.g1
    · exact h.g2
theorem Hg.read (h : Hg w0 u m gm S l G) (hj : l[j]? = some (g, x)) (i : Int) (hi : (Lit.int .i64 i).wf = true) (he : x.read S i = (v, e, S', x')) : Calls Try.prog 13 #[ptr g, .int .i64 i] u fun r u' => r = .returned (.tuple #[.int .i64 v, .int .i64 e]) ∧ ToG w0 u m gm S' (l.set j (g, x')) G V u' := by
  obtain ⟨F, h⟩ := h
  obtain ⟨a, b, c, d, _, _⟩ := h.tx j g x hj
  have q := read_at h.mm b c d h.num i hi
  have hn := h.num.read x i
  have hr := a.read S i
  rw [he] at q hn hr
  exact q.mono fun r u' ⟨p, t⟩ => ⟨p, Hg.call h hj t hn hr⟩
theorem Hg.write (h : Hg w0 u m gm S l G) (hj : l[j]? = some (g, x)) (i y : Int) (he : x.write S i y = (e, x')) : Calls Try.prog 14 #[ptr g, .int .i64 i, .int .i64 y] u fun r u' => r = .returned (.int .i64 e) ∧ ToG w0 u m gm S (l.set j (g, x')) G V u' := by
  obtain ⟨F, h⟩ := h
  obtain ⟨a, b, c, d, _, _⟩ := h.tx j g x hj
  have q := write_at h.mm b c d i y
  have hr := a.write S i y
  rw [he] at q hr
  exact q.mono fun r u' ⟨p, t⟩ => ⟨p, Hg.call h hj t h.num hr⟩
theorem Hg.abort (h : Hg w0 u m gm S l G) (hj : l[j]? = some (g, x)) (he : x.abort S = (e, S', x')) : Calls Try.prog 15 #[ptr g] u fun r u' => r = .returned (.int .i64 e) ∧ ToG w0 u m gm S' (l.set j (g, x')) G V u' := by
  obtain ⟨F, h⟩ := h
  obtain ⟨a, b, c, d, _, _⟩ := h.tx j g x hj
  have q := abort_at h.mm b c d
  have hn := h.num.abort x
  have hr := a.abort S
  rw [he] at q hn hr
  exact q.mono fun r u' ⟨p, t⟩ => ⟨p, Hg.call h hj t hn hr⟩
theorem Hg.status (h : Hg w0 u m gm S l G) (hj : l[j]? = some (g, x)) : Calls Try.prog 16 #[ptr g] u fun r u' => r = .returned (.int .u8 x.st) ∧ u' = u := by
  obtain ⟨F, h⟩ := h
  exact status_at (h.tx j g x hj).2.1
theorem Hg.begin (h : Hg w0 u m gm S l G) (o : Int) (ho : 1 ≤ o) (ho2 : o < 9223372036854775808) : Calls Try.prog 10 #[ptr m, .int .i64 o] u fun r u' => ∃ g, r = .returned (.tuple #[ptr g, .int .i64 0]) ∧ ToG w0 u m gm S (l ++ [(g, X0 o S.k)]) G V u' := by
  obtain ⟨F, h⟩ := h
  have hB := h.mm.hB
  refine (begin_at h.mm o ho ho2).mono fun r u' ⟨g, e, hx, hb⟩ => ⟨g, e, ⟨upd F l.length (fun x => u.heap.size ≤ x ∧ x < u'.heap.size), { mm := h.mm.below hb, num := h.num, bel := h.bel.trans (hb.mono hB), gB := grow_lt h.gB hB hb.size, g1 := .inl h.g1, g2 := .inl h.g2, tx := fun i g' y hi => ?_ }⟩, hb.size, fun k hk _ => hb.block k hk⟩
  by_cases ei : i < l.length
  · rw [List.getElem?_append_left ei] at hi
    obtain ⟨a', b', c', d', e', f'⟩ := h.tx i g' y hi
    rw [upd_other _ _ (by omega)]
    refine ⟨a', b'.below hb, c', d', fun z hz => .inl (e' z hz), fun k hk hki z hz => ?_⟩
    by_cases ek : k = l.length
    · subst ek
      rw [upd_same]
      intro hf
      have := (b'.fB z hz).2
      omega
    · rw [upd_other _ _ ek]
      exact f' k (by simp at hk; omega) hki z hz
  · rw [List.getElem?_append_right (by omega)] at hi
    have e0 : i = l.length := by
      have := (List.getElem?_eq_some_iff.1 hi).1
      simp at this
      omega
    subst e0
    rw [Nat.sub_self] at hi
    simp at hi
    obtain ⟨h1, h2⟩ := hi
    subst h1 h2
    rw [upd_same]
    obtain ⟨s, lv, P, Q, hT⟩ := hx
    have hT' : IsT u' w0.heap.size g m (X0 o S.k) (fun x => u.heap.size ≤ x ∧ x < u'.heap.size) s lv P Q := { hT with sets := T.IsS.base hT.sets hB, fB := fun x hx => ⟨Nat.le_trans hB hx.1, hx.2⟩ }
    refine ⟨fun e => by simp [X0] at e, ⟨s, lv, P, Q, hT'⟩, fun e => ?_, fun e => ?_, fun y hy => .inr hy, fun k hk hki y hy => ?_⟩
    · have := h.mm.lt.1.2; omega
    · have := h.mm.lt.2.2; omega
    · have hk' : k < l.length := by simp at hk; omega
      rw [upd_other _ _ hki]
      intro hf
      have := ((h.tx k _ _ (List.getElem?_eq_getElem hk')).2.1.fB y hf).2
      omega
theorem Hg.fill (h : Hg w0 u m gm S [] G) (i y : Int) (he : S.fill i (.int .i64 y) = (S', e)) : Calls Try.prog 20 #[ptr m, .int .i64 i, .int .i64 y] u fun r u' => r = .returned (.int .i64 e) ∧ ToG w0 u m gm S' [] G V u' := by
  obtain ⟨F, h⟩ := h
  have c := C.fill_at h.mm.is i y (fun c hc => h.num i c hc)
  have hN := h.num.fill i y
  rw [he] at c hN
  refine c.mono fun r u' ⟨a, b⟩ => ⟨a, ?_⟩
  obtain ⟨hM, hu⟩ := h.mm.to b
  exact ⟨⟨F, { mm := hM, num := hN, bel := h.bel.trans b.bel, gB := grow_lt h.gB h.mm.hB hu.1, g1 := .inl h.g1, g2 := .inl h.g2, tx := fun j g x hj => by simp at hj }⟩, hu.1, fun k hk hn => hu.2 k hk (fun hx => hn (.inl (hx.elim (fun e => e ▸ h.g1) (fun e => e ▸ h.g2))))⟩
theorem hg_new {n : Nat} {w0 w : World} (hb : Below w0.heap.size w0 w) (h1 : 1 ≤ n) (h2 : n ≤ 1024) : Calls Try.prog 8 #[.int .i64 (n : Int)] w fun r w' => ∃ m gm, r = .returned (.tuple #[ptr m, .int .i64 0]) ∧ Hg w0 w' m gm (C.M0 n) [] (fun y => w.heap.size ≤ y ∧ y < w'.heap.size) ∧ Below w.heap.size w w' := by
  refine (C.new_at w n h1 h2).mono fun r w' ⟨m, a, b, c⟩ => ?_
  have hs := hb.size
  have b' : C.IsM 65 81 w' w0.heap.size m (C.M0 n) := ⟨by have := b.hm; omega, b.rt, by obtain ⟨g, hg, q⟩ := b.row; exact ⟨g, by omega, q⟩⟩
  obtain ⟨gm, hM⟩ := MM.of b'
  obtain ⟨gm', hM'⟩ := MM.of b
  have e1 := hM.at1
  have e2 := hM'.at1
  obtain ⟨n1, c1, e1⟩ := e1
  obtain ⟨n2, c2, e2⟩ := e2
  rw [e1] at e2
  have : gm = gm' := by injection e2 with e2; injection e2 with e2; injection e2 with e2; injection e2 with e2
  subst this
  exact ⟨m, gm, a, ⟨fun _ _ => False, { mm := hM, num := Num.new n, bel := hb.trans (c.mono hs), gB := fun y hy => ⟨by omega, hy.2⟩, g1 := hM'.lt.1, g2 := hM'.lt.2, tx := fun j g x hj => by simp at hj }⟩, c⟩
end
end Go.Proofs.Ytafiopjgegmfoaa.T
namespace Go.Proofs.Ytafiopjgegmfoaa.T
open Go.RowKit Go.Proofs.Ytafiopjgegmfoaa.C
section
variable {w0 u : World} {m gm j g : Nat} {S : M} {l : List (Nat × TX)} {x : TX} {G : Nat → Prop}
end
end Go.Proofs.Ytafiopjgegmfoaa.T
namespace Go.Proofs.Ytafiopjgegmfoaa.T
open Go.RowKit Go.Proofs.Ytafiopjgegmfoaa.C
section
variable {w0 u u' u1 u2 : World} {m gm j g : Nat} {S S' S1 S2 : M} {l l1 l2 : List (Nat × TX)} {x x' : TX} {v e : Int} {G G' V V' : Nat → Prop}
theorem Hg.step (h : Hg w0 u m gm S l G) (hj : l[j]? = some (g, x)) (he : x.step S = (v, e, S', x')) : Calls Try.prog 17 #[ptr g] u fun r u' => r = .returned (.tuple #[.int .u8 v, .int .i64 e]) ∧ ToG w0 u m gm S' (l.set j (g, x')) G V u' := by
  obtain ⟨F, h⟩ := h
  obtain ⟨a, b, c, d, _, _⟩ := h.tx j g x hj
  have q := step_at h.mm b c d h.num a
  have hn := h.num.step x
  have hr := a.step S
  rw [he] at q hn hr
  exact q.mono fun r u' ⟨p, t⟩ => ⟨p, Hg.call h hj t hn hr⟩
theorem Hg.version (h : Hg w0 u m gm S l G) (hj : l[j]? = some (g, x)) : Calls Try.prog 18 #[ptr g] u fun r u' => r = .returned (.int .i64 (if x.st = 3 then x.ver else 0)) ∧ u' = u := by
  obtain ⟨F, h⟩ := h
  exact version_at (h.tx j g x hj).2.1
end
end Go.Proofs.Ytafiopjgegmfoaa.T
