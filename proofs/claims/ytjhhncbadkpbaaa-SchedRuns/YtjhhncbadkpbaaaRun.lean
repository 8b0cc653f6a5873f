/-
  SchedRuns: the program's sched and the document's, side by side.
-/
import Derived.Test.YtjhhncbadkpbaaaRefTo
import Derived.Test.YtjhhncbadkpbaaaRefSame4
import Derived.Test.YtjhhncbadkpbaaaAwk0
import Derived.Test.YtjhhncbadkpbaaaStepsP
namespace Go.Proofs.Ytjhhncbadkpbaaa
open Go.RowKit

/-! ### the same are blocked -/
theorem blk_eq : ∀ (E : List En) (G : List Nat) (k : Nat), E.length = G.length → gat (fun e => e.st == 2) (alX E G k) = (((E.map (·.st)).zipIdx k).filter fun p => p.1 == 2).map fun p => p.2 + 1
  | [], G, k, _ => by simp [alX, gat]
  | _ :: _, [], _, h => by simp at h
  | e :: E, g :: G, k, h => by
    have ih := blk_eq E G (k + 1) (by simpa using h)
    rw [alX, List.map_cons, List.zipIdx_cons]
    by_cases h3 : e.st = 3
    · rw [if_pos h3, ih, List.filter_cons]
      simp [h3]
    · rw [if_neg h3]
      by_cases h2 : e.st = 2
      · have : gat (fun e => e.st == 2) (⟨g, k, e⟩ :: alX E G (k + 1)) = (k + 1) :: gat (fun e => e.st == 2) (alX E G (k + 1)) := by simp [gat, h2]
        rw [this, ih, List.filter_cons]
        simp [h2]
      · have : gat (fun e => e.st == 2) (⟨g, k, e⟩ :: alX E G (k + 1)) = gat (fun e => e.st == 2) (alX E G (k + 1)) := by simp [gat, h2]
        rw [this, ih, List.filter_cons]
        simp [h2]
theorem Alike.blk {S : SS} {R : RS} (h : Alike S R) (hl : S.E.length = S.G.length) : R.blk = S.blk := by
  unfold RS.blk SS.blk
  rw [h.st, blk_eq _ _ _ hl]

/-! ### what stays -/
theorem ownsRow_own {w w' : World} {B n : Nat} {e : TypeId} {size : Nat} {v : Value} {xs : List Value} (h : w.ownsRow B e size v n xs) (hk : ∀ k cs, v.ownBlock = some k → Box w k cs e → Box w' k cs e) : w'.ownsRow B e size v n xs := by
  refine ⟨h.1, ?_⟩
  rcases h.2 with h | ⟨g, cap, cur, rfl, hb, hg, r⟩
  · exact .inl h
  · exact .inr ⟨g, cap, cur, rfl, hb, hk g cur rfl hg, r⟩
theorem Sit.keep {w w' : World} {B s : Nat} {S : SS} {tb bb : Nat} {tv : Value} {told : List Bool} {bad : Bool} {K : List TK} (h : Sit w B s S tb bb tv told bad K) (hb : Below B w w') (hk : ∀ k cs t, Box w k cs t → (t ≠ 42 ∧ t ≠ 43 ∧ t ≠ 3 ∧ t ≠ 4) ∨ k = bb ∨ tv.ownBlock = some k → Box w' k cs t) : Sit w' B s S tb bb tv told bad K := by
  have hK : Kt (fun t => t ≠ 42 ∧ t ≠ 43 ∧ t ≠ 3 ∧ t ≠ 4) w w' := fun k cs t x hp => hk k cs t x (.inl hp)
  refine ⟨h.is.kt hK (by decide) (by decide) (by decide), h.good, h.nw, ⟨hK _ _ _ h.tw.tbox (by decide), ownsRow_own h.tw.row (fun k cs e x => hk k cs 4 x (.inr (.inr e))), h.tw.apt, hk _ _ _ h.tw.bbox (.inr (.inl rfl)), h.tw.ht, h.tw.hb⟩, h.hlen, fun i k e h1 h2 => ?_, h.nd⟩
  obtain ⟨a, b, c, d⟩ := h.tk i k e h1 h2
  exact ⟨a, hK _ _ _ b (by decide), c.keep hb (fun _ _ x => hK _ _ _ x (by decide)), d⟩
/-- the types of the document's blocks -/
theorem RB.typ {w : World} {B g : Nat} {V : RV} {R : RS} {P : List PV} (h : RB w B g V R P) {k : Nat} (hk : RF g V k) : ∃ cs t, Box w k cs t ∧ (t = 42 ∨ t = 43 ∨ t = 3 ∨ (t = 4 ∧ V.vt.ownBlock = some k)) := by
  rcases hk with rfl | e | e | e | e | e
  · exact ⟨_, _, h.box, .inl rfl⟩
  · obtain ⟨cs, x⟩ := ownsRow_box h.rp k e; exact ⟨cs, _, x, .inr (.inl rfl)⟩
  · obtain ⟨cs, x⟩ := ownsRow_box h.rs k e; exact ⟨cs, _, x, .inr (.inr (.inl rfl))⟩
  · obtain ⟨cs, x⟩ := ownsRow_box h.rn k e; exact ⟨cs, _, x, .inr (.inr (.inl rfl))⟩
  · obtain ⟨cs, x⟩ := ownsRow_box h.rl k e; exact ⟨cs, _, x, .inr (.inr (.inl rfl))⟩
  · obtain ⟨cs, x⟩ := ownsRow_box h.rt k e; exact ⟨cs, _, x, .inr (.inr (.inr ⟨rfl, e⟩))⟩
theorem Box.tag {w : World} {k : Nat} {cs cs' : Array Value} {t t' : TypeId} (h : Box w k cs t) (h' : Box w k cs' t') : t = t' := by
  by_cases e : t = t'
  · exact e
  · exact absurd rfl (h.ne h' e)

/-! ### the two -/
structure Run (u : World) (B s g tb bb : Nat) (S : SS) (R : RS) (V : RV) (tv : Value) (told : List Bool) (K : List TK) (P : List PV) : Prop where
  sit : Sit u B s S tb bb tv told false K
  rb : RB u B g V R P
  al : Alike S R
  sp : R.Sp = S.E.map (·.n)
  td : R.Td = told
  kp : ∀ (i : Nat) (k : TK) (p : PV), K[i]? = some k → P[i]? = some p → k.xs = p.xs
  pl : P.length = S.G.length
  ok : ∀ p ∈ P, ∀ d ∈ p.xs, 0 ≤ d.tell ∧ d.tell < 7
  ap : ∀ k, V.vt.ownBlock = some k → tv.ownBlock ≠ some k ∧ k ≠ bb
theorem Run.stl {u : World} {B s g tb bb : Nat} {S : SS} {R : RS} {V : RV} {tv : Value} {told : List Bool} {K : List TK} {P : List PV} (h : Run u B s g tb bb S R V tv told K P) : R.St.length = S.G.length := by rw [h.al.st, List.length_map]; exact h.sit.is.len
theorem Run.lnl {u : World} {B s g tb bb : Nat} {S : SS} {R : RS} {V : RV} {tv : Value} {told : List Bool} {K : List TK} {P : List PV} (h : Run u B s g tb bb S R V tv told K P) : R.Ln.length = S.L.length := by rw [h.al.ln, List.length_map]
theorem Run.spl {u : World} {B s g tb bb : Nat} {S : SS} {R : RS} {V : RV} {tv : Value} {told : List Bool} {K : List TK} {P : List PV} (h : Run u B s g tb bb S R V tv told K P) : R.Sp.length = S.G.length := by rw [h.sp, List.length_map]; exact h.sit.is.len
/-- a block of the document's is none of the program's -/
theorem Run.far {u : World} {B s g tb bb : Nat} {S : SS} {R : RS} {V : RV} {tv : Value} {told : List Bool} {K : List TK} {P : List PV} (h : Run u B s g tb bb S R V tv told K P) {k : Nat} (hk : RF g V k) : k ≠ bb ∧ tv.ownBlock ≠ some k := by
  obtain ⟨cs, t, x, ht⟩ := h.rb.typ hk
  have hb := h.sit.tw.bbox
  have hv : ∀ q, tv.ownBlock = some q → ∃ cs, Box u q cs 4 := fun q e => ownsRow_box h.sit.tw.row q e
  rcases ht with rfl | rfl | rfl | ⟨rfl, e⟩
  · exact ⟨x.ne hb (by decide), fun e => by obtain ⟨cs', y⟩ := hv k e; exact x.ne y (by decide) rfl⟩
  · exact ⟨x.ne hb (by decide), fun e => by obtain ⟨cs', y⟩ := hv k e; exact x.ne y (by decide) rfl⟩
  · exact ⟨x.ne hb (by decide), fun e => by obtain ⟨cs', y⟩ := hv k e; exact x.ne y (by decide) rfl⟩
  · exact ⟨(h.ap k e).2, (h.ap k e).1⟩
theorem Run.below {u u' : World} {B s g tb bb : Nat} {S : SS} {R : RS} {V : RV} {tv : Value} {told : List Bool} {K : List TK} {P : List PV} (h : Run u B s g tb bb S R V tv told K P) (hb : Below u.heap.size u u') : Run u' B s g tb bb S R V tv told K P :=
  ⟨h.sit.below hb, h.rb.below hb, h.al, h.sp, h.td, h.kp, h.pl, h.ok, h.ap⟩
/-- the document's side stands while the program does something -/
theorem Run.rbKeep {u u' : World} {B s g tb bb : Nat} {S : SS} {R : RS} {V : RV} {tv : Value} {told : List Bool} {K : List TK} {P : List PV} (h : Run u B s g tb bb S R V tv told K P) (hb : Below B u u') (hk : KtF (fun q => (∃ l ∈ K, l.tg = q) ∨ q = tb ∨ tv.ownBlock = some q) Oth u u') : RB u' B g V R P := by
  have htg : ∀ l ∈ K, ∃ cs, Box u l.tg cs 51 := fun l hl => by
    obtain ⟨i, hi, e⟩ := List.getElem_of_mem hl
    have hie : i < S.E.length := by rw [h.sit.is.len, ← h.sit.hlen]; exact hi
    exact ⟨_, (h.sit.tk i l S.E[i] (by rw [List.getElem?_eq_getElem hi, e]) (List.getElem?_eq_getElem hie)).2.1⟩
  refine h.rb.keep hb (fun k cs t x hkt => ?_)
  rcases hkt with hkt | rfl
  · obtain ⟨cs', t', y, ht⟩ := h.rb.typ hkt
    have e := x.tag y
    subst e
    refine hk k cs t x (by rcases ht with rfl | rfl | rfl | ⟨rfl, _⟩ <;> exact ⟨by decide, by decide, by decide⟩) ?_
    rintro (⟨l, hl, rfl⟩ | rfl | e)
    · obtain ⟨cs2, z⟩ := htg l hl
      have e2 := x.tag z
      rcases ht with e1 | e1 | e1 | ⟨e1, _⟩ <;> (rw [e1] at e2; exact absurd e2 (by decide))
    · have e2 := x.tag h.sit.tw.tbox
      rcases ht with e1 | e1 | e1 | ⟨e1, _⟩ <;> (rw [e1] at e2; exact absurd e2 (by decide))
    · exact (h.far hkt).2 e
  · refine hk k cs 45 x ⟨by decide, by decide, by decide⟩ ?_
    rintro (⟨l, hl, rfl⟩ | rfl | e)
    · obtain ⟨cs2, z⟩ := htg l hl
      exact absurd (x.tag z) (by decide)
    · exact absurd (x.tag h.sit.tw.tbox) (by decide)
    · obtain ⟨cs2, z⟩ := ownsRow_box h.sit.tw.row k e
      exact absurd (x.tag z) (by decide)
/-- the program's side stands while the document does something; and they stay apart -/
theorem sitKeep {u u' : World} {B s g tb bb : Nat} {S : SS} {R R' : RS} {V : RV} {tv : Value} {told : List Bool} {K : List TK} {P P2 : List PV} (hs : Sit u B s S tb bb tv told false K) (hr : RB u B g V R P) (hap : ∀ k, V.vt.ownBlock = some k → tv.ownBlock ≠ some k ∧ k ≠ bb) (hT : RTo u B g V R' P2 u') : Sit u' B s S tb bb tv told false K ∧ ∃ V', RB u' B g V' R' P2 ∧ ∀ k, V'.vt.ownBlock = some k → tv.ownBlock ≠ some k ∧ k ≠ bb := by
  have hb := hs.tw.bbox
  have hv : ∀ q, tv.ownBlock = some q → ∃ cs, Box u q cs 4 := fun q e => ownsRow_box hs.tw.row q e
  have far : ∀ {k}, RF g V k → k ≠ bb ∧ tv.ownBlock ≠ some k := fun {k} hk => by
    obtain ⟨cs, t, x, ht⟩ := hr.typ hk
    rcases ht with rfl | rfl | rfl | ⟨rfl, e⟩
    · exact ⟨x.ne hb (by decide), fun e => by obtain ⟨cs', y⟩ := hv k e; exact x.ne y (by decide) rfl⟩
    · exact ⟨x.ne hb (by decide), fun e => by obtain ⟨cs', y⟩ := hv k e; exact x.ne y (by decide) rfl⟩
    · exact ⟨x.ne hb (by decide), fun e => by obtain ⟨cs', y⟩ := hv k e; exact x.ne y (by decide) rfl⟩
    · exact ⟨(hap k e).2, (hap k e).1⟩
  refine ⟨hs.keep hT.bel (fun k cs t x hkt => hT.kt k cs t x trivial (fun hRF => ?_)), ?_⟩
  · rcases hkt with ⟨t1, t2, t3, t4⟩ | rfl | e
    · obtain ⟨cs', t', y, ht⟩ := hr.typ hRF
      have e := x.tag y
      subst e
      rcases ht with e1 | e1 | e1 | ⟨e1, _⟩
      · exact t1 e1
      · exact t2 e1
      · exact t3 e1
      · exact t4 e1
    · exact (far hRF).1 rfl
    · exact (far hRF).2 e
  · obtain ⟨V', hr', hn⟩ := hT.is
    refine ⟨V', hr', fun k e => ?_⟩
    rcases hn k (.inr (.inr (.inr (.inr (.inr e))))) with h1 | h1
    · exact ⟨(far h1).2, (far h1).1⟩
    · refine ⟨fun e2 => ?_, ?_⟩
      · obtain ⟨cs, y⟩ := hv k e2
        have := y.lt
        omega
      · have := hb.lt
        omega
end Go.Proofs.Ytjhhncbadkpbaaa
