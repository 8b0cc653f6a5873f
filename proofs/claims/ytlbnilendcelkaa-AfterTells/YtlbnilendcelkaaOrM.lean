/-
  AfterOrder, in memory.
-/
import Derived.Test.YtlbnilendcelkaaOrP
import Derived.Test.YtlbnilendcelkaaNum
import Derived.Maps.OwnSet
import Derived.Maps.Range
import Derived.ChangeKeysEq
namespace Go.Proofs.Ytlbnilendcelkaa
open Go.RowKit Go.Maps
/-- a value is told as itself -/
def rV (v : Value) : Option (DataW Value × List MemPlace) := some (.held v, [])
/-- Block b is a map of at most n numbers that holds m. -/
def MapJ (w : World) (b n : Nat) (m : Int → Option Value) : Prop :=
  ∃ D : DataW Value, w.ownsMap Try.prog 3 rV b n D ∧ (∀ k, (m k).isSome = true → (Lit.int .i64 k).wf = true) ∧ ∀ k, (Lit.int .i64 k).wf = true → has D (.int .i64 k) = (m k).isSome ∧ ∀ z, D.atKey (.int .i64 k) z = ((m k).map DataW.held).getD z
theorem keyed3 : Keyed Try.prog 3 := int_keyed Try.underlying3
theorem key3 {k : Int} (h : (Lit.int .i64 k).wf = true) : keyOf Try.prog 3 (.int .i64 k) = some (.int .i64 k) := by
  simp [keyOf, mapKey, Try.underlying3, h]
theorem MapJ.made (w : World) : MapJ (w.alloc (.map #[] 0)) w.heap.size 0 (fun _ => none) :=
  ⟨_, World.ownsMap_made w Try.prog 3 rV, fun k h => by simp at h, fun k _ => ⟨rfl, fun z => rfl⟩⟩
theorem MapJ.lt {w : World} {b n : Nat} {m : Int → Option Value} (h : MapJ w b n m) : b < w.heap.size := by obtain ⟨D, h, _⟩ := h; exact h.lt
theorem MapJ.below {w w' : World} {b n : Nat} {m : Int → Option Value} (h : MapJ w b n m) (hb : Below w.heap.size w w') : MapJ w' b n m := by
  have hl := h.lt
  obtain ⟨D, ⟨es, cl, h1, h2⟩, h3⟩ := h
  exact ⟨D, ⟨es, cl, (hb.block b hl).trans h1, h2⟩, h3⟩
theorem MapJ.update {w : World} {b n : Nat} {m : Int → Option Value} (h : MapJ w b n m) (hn : n < maxLen) (t e : TypeId) (hu : Try.prog.underlying t = some (.map 3 e)) (k : Int) (hk : (Lit.int .i64 k).wf = true) (v : Value) :
    ∃ w', (Instr.mapUpdate t (.map (some b)) (.int .i64 k) v).run Try.prog w = .ok () w' ∧ MapJ w' b (n + 1) (fun j => if j = k then some v else m j) ∧ w.grownBy w' (some b) := by
  obtain ⟨D, h1, h2, h3⟩ := h
  obtain ⟨w', r, o, g⟩ := h1.update keyed3 hu hn (key3 hk) (show rV v = some (.held v, []) from rfl)
  refine ⟨w', r, ⟨_, o, fun j hj => ?_, fun j hj => ?_⟩, g⟩
  · dsimp only at hj
    by_cases e : j = k
    · rw [e]; exact hk
    · rw [if_neg e] at hj; exact h2 j hj
  · dsimp only
    by_cases e : j = k
    · subst e
      rw [if_pos rfl]
      exact ⟨has_put_same h1.isMap (show WideAt.IsKeyLit (.int .i64 j) from trivial) _, fun z => atKey_put_same h1.isMap (show WideAt.IsKeyLit (.int .i64 j) from trivial) _ z⟩
    · have ne : Lit.int .i64 j ≠ Lit.int .i64 k := fun h => e (by injection h)
      rw [if_neg e, has_put_other ne]
      exact ⟨(h3 j hj).1, fun z => (atKey_put_other ne _ z).trans ((h3 j hj).2 z)⟩
theorem MapJ.look {w : World} {b n : Nat} {m : Int → Option Value} (h : MapJ w b n m) (t e : TypeId) (z : Value) (hu : Try.prog.underlying t = some (.map 3 e)) (hz : ∀ w : World, (zeroValue e).run Try.prog w = .ok z w) (k : Int) (hk : (Lit.int .i64 k).wf = true) :
    (Instr.lookup t (.map (some b)) (.int .i64 k) false).run Try.prog w = .ok ((m k).getD z) w := by
  obtain ⟨D, h1, h2, h3⟩ := h
  obtain ⟨v, ps, r, e⟩ := h1.lookup keyed3 hu (hz w) (show rV _ = some (.held _, []) from rfl) (key3 hk)
  rw [(h3 k hk).2] at e
  rw [r]
  cases hm : m k with
  | none => rw [hm] at e; simp [rV] at e; rw [e.1]; rfl
  | some x => rw [hm] at e; simp [rV] at e; rw [e.1]; rfl
theorem MapJ.stay {w w' : World} {b n : Nat} {m : Int → Option Value} (h : MapJ w b n m) (hb : w'.heap[b]? = w.heap[b]?) : MapJ w' b n m := by
  obtain ⟨D, ⟨es, cl, h1, h2⟩, h3⟩ := h
  exact ⟨D, ⟨es, cl, hb.trans h1, h2⟩, h3⟩
theorem MapJ.noBox {w : World} {b n g : Nat} {m : Int → Option Value} {cs : Array Value} {t : TypeId} (h : MapJ w b n m) (hb : Box w g cs t) : b ≠ g := by
  rintro rfl
  obtain ⟨D, ⟨es, cl, h1, h2⟩, h3⟩ := h
  unfold Box at hb
  rw [h1] at hb
  injection hb with hb
  cases hb

def ics (l : List Int) : List Value := l.map fun x => .int .i64 x
def up {A : Type} (V : Int → A) (i : Int) (v : A) : Int → A := fun j => if j = i then v else V j
theorem up_same {A : Type} (V : Int → A) (i : Int) (v : A) : up V i v i = v := if_pos rfl
theorem up_other {A : Type} (V : Int → A) (i j : Int) (v : A) (h : j ≠ i) : up V i v j = V j := if_neg h
theorem row_in {u : World} {B n : Nat} {e : TypeId} {size : Nat} {v : Value} {xs : List Value} (h : u.ownsRow B e size v n xs) (k : Nat) (hk : v.ownBlock = some k) : B ≤ k ∧ k < u.heap.size := by
  obtain ⟨cs, hb⟩ := ownsRow_box h k hk
  refine ⟨?_, hb.lt⟩
  rcases h.2 with ⟨rfl, rfl⟩ | ⟨g, cap, cur, rfl, hB, _⟩
  · cases hk
  · cases hk; exact hB
theorem row_chg {u u' : World} {B n : Nat} {e : TypeId} {size : Nat} {v : Value} {xs : List Value} {G : Nat → Prop} (h : u.ownsRow B e size v n xs) (hc : Chg G u u') (hn : ∀ b, v.ownBlock = some b → ¬ G b) : u'.ownsRow B e size v n xs := by
  refine ⟨h.1, ?_⟩
  rcases h.2 with ⟨rfl, h0⟩ | ⟨g, cap, cur, rfl, hB, hx, r⟩
  · exact .inl ⟨rfl, h0⟩
  · exact .inr ⟨g, cap, cur, rfl, hB, (hc.block g (Array.getElem?_eq_some_iff.1 hx).1 (hn g rfl)).trans hx, r⟩
/-- the law's variables in memory, but for the map and the box of what was got -/
structure OC (w0 u : World) (q qb : Nat) (N : Nat → Prop) (S : QS Int) (V : Int → Value) (L : Int → List Int) : Prop where
  qs : ∃ F, HasQ eI 49 33 u w0.heap.size q S F ∧ ¬ F qb ∧ (∀ b, N b → ¬ F b) ∧ ∀ i b, (V i).ownBlock = some b → ¬ F b
  bq : Box u qb #[ptr q] 22
  row : ∀ i, u.ownsRow w0.heap.size 3 1 (V i) (L i).length (ics (L i))
  ap : ∀ i j b, i ≠ j → (V i).ownBlock = some b → (V j).ownBlock ≠ some b
  bel : Below w0.heap.size w0 u
  lt : ∀ b, N b → w0.heap.size ≤ b ∧ b < u.heap.size
theorem HasQ.lt {w : World} {B q : Nat} {S : QS Int} {F : Nat → Prop} (h : HasQ eI 49 33 w B q S F) (k : Nat) (hk : F k) : B ≤ k ∧ k < w.heap.size := by
  obtain ⟨_, _, h, _⟩ := h
  exact h.fB k hk
section
variable {w0 u u' : World} {q qb : Nat} {N : Nat → Prop} {S S' : QS Int} {V : Int → Value} {L : Int → List Int}
theorem OC.call (h : OC w0 u q qb N S V L) : ∃ F, HasQ eI 49 33 u w0.heap.size q S F ∧ (∀ b, N b → ¬ F b) ∧ ∀ S' u', ToQ eI 49 33 u w0.heap.size q S' F u' → OC w0 u' q qb N S' V L := by
  obtain ⟨F, h1, h2, h3, h4⟩ := h.qs
  refine ⟨F, h1, h3, fun S' u' t => ?_⟩
  obtain ⟨F', g1, g2⟩ := t.is
  have hn : ∀ b, b < u.heap.size → ¬ F b → ¬ F' b := fun b hb hf hf' => (g1 b hf').elim hf (fun x => by omega)
  refine ⟨⟨F', g2, hn qb h.bq.lt h2, fun b hb => hn b (h.lt b hb).2 (h3 b hb), fun i b hb => hn b (row_in (h.row i) b hb).2 (h4 i b hb)⟩, h.bq.chg t.chg h2, fun i => ?_, h.ap, h.bel.trans (t.chg.below h.bel.size fun k hk => (HasQ.lt h1 k hk).1), fun b hb => ⟨(h.lt b hb).1, Nat.lt_of_lt_of_le (h.lt b hb).2 t.chg.size⟩⟩
  exact row_chg (h.row i) t.chg (h4 i)
theorem OC.away (h : OC w0 u q qb N S V L) {G : Nat → Prop} (hc : Chg G u u') (hG : ∀ b, G b → N b) (hqb : ¬ N qb) (hr : ∀ i b, (V i).ownBlock = some b → ¬ N b) : OC w0 u' q qb N S V L := by
  obtain ⟨F, h1, h2, h3, h4⟩ := h.qs
  exact ⟨⟨F, h1.chg hc (fun k hk e => h3 k (hG k e) hk), h2, h3, h4⟩, h.bq.chg hc (fun e => hqb (hG _ e)), fun i => row_chg (h.row i) hc (fun b hb e => hr i b hb (hG b e)), h.ap, h.bel.trans (hc.below h.bel.size fun k hk => (h.lt k (hG k hk)).1), fun b hb => ⟨(h.lt b hb).1, Nat.lt_of_lt_of_le (h.lt b hb).2 hc.size⟩⟩
theorem OC.below (h : OC w0 u q qb N S V L) (hb : Below u.heap.size u u') : OC w0 u' q qb N S V L := by
  obtain ⟨F, h1, h2, h3, h4⟩ := h.qs
  have hc : Chg (fun _ => False) u u' := Chg.ofBelow hb
  exact ⟨⟨F, h1.below hb, h2, h3, h4⟩, h.bq.chg hc (fun x => x), fun i => row_chg (h.row i) hc (fun _ _ x => x), h.ap, h.bel.trans (hb.mono h.bel.size), fun b hb => ⟨(h.lt b hb).1, Nat.lt_of_lt_of_le (h.lt b hb).2 hc.size⟩⟩
theorem OC.put (h : OC w0 u q qb N S V L) (i : Int) {v : Value} {l : List Int} (hg : u.grownBy u' (V i).ownBlock) (hr : u'.ownsRow w0.heap.size 3 1 v l.length (ics l)) (hb : v.ownBlock = (V i).ownBlock ∨ ∀ k, v.ownBlock = some k → u.heap.size ≤ k) : OC w0 u' q qb N S (up V i v) (up L i l) := by
  obtain ⟨F, h1, h2, h3, h4⟩ := h.qs
  have hc := Chg.ofGrown hg
  have hv : ∀ b, v.ownBlock = some b → (V i).ownBlock = some b ∨ u.heap.size ≤ b := fun b e => hb.elim (fun x => .inl (x ▸ e)) (fun x => .inr (x b e))
  refine ⟨⟨F, h1.chg hc (fun k hk e => h4 i k e hk), h2, h3, fun j b e => ?_⟩, h.bq.chg hc (fun e => ?_), fun j => ?_, fun j k b hne e e' => ?_, h.bel.trans (hc.below h.bel.size fun k hk => (row_in (h.row i) k hk).1), fun b hb => ⟨(h.lt b hb).1, Nat.lt_of_lt_of_le (h.lt b hb).2 hc.size⟩⟩
  · by_cases hj : j = i
    · subst hj
      rw [up_same] at e
      rcases hv b e with e | e
      · exact h4 _ b e
      · intro hf; have := (HasQ.lt h1 b hf).2; omega
    · rw [up_other _ _ _ _ hj] at e; exact h4 j b e
  · obtain ⟨cs, hx⟩ := ownsRow_box (h.row i) qb e
    exact Box.ne h.bq hx (by decide) rfl
  · by_cases hj : j = i
    · subst hj; rw [up_same, up_same]; exact hr
    · rw [up_other _ _ _ _ hj, up_other _ _ _ _ hj]; exact ownsRow_grown (h.row j) hg (fun k hk e => h.ap j i k hj hk e)
  · by_cases hj : j = i
    · subst hj
      rw [up_same] at e
      rw [up_other _ _ _ _ (Ne.symm hne)] at e'
      rcases hv b e with e | e
      · exact h.ap _ k b hne e e'
      · have := (row_in (h.row k) b e').2; omega
    · rw [up_other _ _ _ _ hj] at e
      by_cases hk : k = i
      · subst hk
        rw [up_same] at e'
        rcases hv b e' with e' | e'
        · exact h.ap j _ b hne e e'
        · have := (row_in (h.row j) b e).2; omega
      · rw [up_other _ _ _ _ hk] at e'; exact h.ap j k b hne e e'
/-- a row is let go -/
theorem OC.nil (h : OC w0 u q qb N S V L) (i : Int) : OC w0 u q qb N S (up V i (.slice none 0 0)) (up L i []) := by
  obtain ⟨F, h1, h2, h3, h4⟩ := h.qs
  refine ⟨⟨F, h1, h2, h3, fun j b e => ?_⟩, h.bq, fun j => ?_, fun j k b hne e e' => ?_, h.bel, h.lt⟩
  · by_cases hj : j = i
    · subst hj; rw [up_same] at e; cases e
    · rw [up_other _ _ _ _ hj] at e; exact h4 j b e
  · by_cases hj : j = i
    · subst hj; rw [up_same, up_same]; exact World.ownsRow_nil _ _ _ _
    · rw [up_other _ _ _ _ hj, up_other _ _ _ _ hj]; exact h.row j
  · by_cases hj : j = i
    · subst hj; rw [up_same] at e; cases e
    · by_cases hk : k = i
      · subst hk; rw [up_same] at e'; cases e'
      · rw [up_other _ _ _ _ hj] at e; rw [up_other _ _ _ _ hk] at e'; exact h.ap j k b hne e e'
end
/-- all of the law's variables in memory -/
structure OM (w0 u : World) (q qb gb mb n : Nat) (S : QS Int) (V : Int → Value) (L : Int → List Int) : Prop where
  oc : OC w0 u q qb (fun b => b = gb ∨ b = mb) S V L
  bg : Box u gb #[V 6] 52
  mp : ∃ M, MapJ u mb n M ∧ ∀ o, 1 ≤ o → o ≤ 4 → (M o).getD (.slice none 0 0) = V o
section
variable {w0 u u' : World} {q qb gb mb n : Nat} {S S' : QS Int} {V : Int → Value} {L : Int → List Int}
theorem OM.call (h : OM w0 u q qb gb mb n S V L) : ∃ F, HasQ eI 49 33 u w0.heap.size q S F ∧ ∀ S' u', ToQ eI 49 33 u w0.heap.size q S' F u' → OM w0 u' q qb gb mb n S' V L := by
  obtain ⟨F, h1, h2, h3⟩ := h.oc.call
  refine ⟨F, h1, fun S' u' t => ⟨h3 S' u' t, h.bg.chg t.chg (h2 gb (.inl rfl)), ?_⟩⟩
  obtain ⟨M, m1, m2⟩ := h.mp
  exact ⟨M, m1.stay (t.chg.block mb m1.lt (h2 mb (.inr rfl))), m2⟩
theorem OM.below (h : OM w0 u q qb gb mb n S V L) (hb : Below u.heap.size u u') : OM w0 u' q qb gb mb n S V L := by
  obtain ⟨M, m1, m2⟩ := h.mp
  exact ⟨h.oc.below hb, h.bg.below hb h.bg.lt, M, m1.below hb, m2⟩
theorem OM.later (h : OM w0 u q qb gb mb n S V L) (o a : Int) : Calls Try.prog 8 #[ptr q, .int .i64 o, .int .i64 a] u fun r u' => r = .returned (.int .i64 (S.later o a).1) ∧ OM w0 u' q qb gb mb n (S.later o a).2 V L := by
  obtain ⟨F, h1, h2⟩ := h.call
  exact (I.later_at h1 o a).mono (fun r u' ⟨e, t⟩ => ⟨e, h2 _ _ t⟩)
theorem OM.commit (h : OM w0 u q qb gb mb n S V L) (hs : S.wait.length + S.due.length ≤ 1024) (o v : Int) : Calls Try.prog 9 #[ptr q, .int .i64 o, .int .i64 v] u fun r u' => r = .returned (.tuple #[.int .i64 (S.commit o v).1, .int .i64 (S.commit o v).2.1]) ∧ OM w0 u' q qb gb mb n (S.commit o v).2.2 V L := by
  obtain ⟨F, h1, h2⟩ := h.call
  exact (I.commit_at h1 hs o v).mono (fun r u' ⟨e, t⟩ => ⟨e, h2 _ _ t⟩)
theorem OM.drop (h : OM w0 u q qb gb mb n S V L) (o : Int) : Calls Try.prog 15 #[ptr q, .int .i64 o] u fun r u' => r = .returned (.int .i64 (S.back o 0).1) ∧ OM w0 u' q qb gb mb n (S.back o 0).2 V L := by
  obtain ⟨F, h1, h2⟩ := h.call
  exact (I.drop_at h1 o).mono (fun r u' ⟨e, t⟩ => ⟨e, h2 _ _ t⟩)
theorem OM.take (h : OM w0 u q qb gb mb n S V L) (o : Int) : Calls Try.prog 10 #[ptr q, .int .i64 o] u fun r u' => ∃ v, r = .returned v ∧ IsRow eI 33 u' u.heap.size v (S.take o).1 ∧ OM w0 u' q qb gb mb n (S.take o).2 V L := by
  obtain ⟨F, h1, h2⟩ := h.call
  exact (I.takeq_at h1 o).mono (fun r u' ⟨v, e, g1, g2, _⟩ => ⟨v, e, g1, h2 _ _ g2⟩)
theorem OM.apart (h : OM w0 u q qb gb mb n S V L) (i : Int) (b : Nat) (hb : (V i).ownBlock = some b) : b ≠ gb ∧ b ≠ mb ∧ b ≠ qb := by
  obtain ⟨cs, hx⟩ := ownsRow_box (h.oc.row i) b hb
  obtain ⟨M, m1, m2⟩ := h.mp
  exact ⟨Box.ne hx h.bg (by decide), fun e => m1.noBox hx e.symm, Box.ne hx h.oc.bq (by decide)⟩
theorem OM.nqb (h : OM w0 u q qb gb mb n S V L) : ¬ (qb = gb ∨ qb = mb) := by
  obtain ⟨M, m1, m2⟩ := h.mp
  rintro (e | e)
  · exact Box.ne h.oc.bq h.bg (by decide) e
  · exact m1.noBox h.oc.bq e.symm
/-- want grows -/
theorem OM.want (h : OM w0 u q qb gb mb n S V L) {v : Value} {l : List Int} (hg : u.grownBy u' (V 5).ownBlock) (hr : u'.ownsRow w0.heap.size 3 1 v l.length (ics l)) (hb : v.ownBlock = (V 5).ownBlock ∨ ∀ k, v.ownBlock = some k → u.heap.size ≤ k) : OM w0 u' q qb gb mb n S (up V 5 v) (up L 5 l) := by
  obtain ⟨M, m1, m2⟩ := h.mp
  have hc := Chg.ofGrown hg
  refine ⟨h.oc.put 5 hg hr hb, ?_, M, m1.stay (hc.block mb m1.lt (fun e => (h.apart 5 mb e).2.1 rfl)), fun o h1 h4 => ?_⟩
  · rw [up_other _ _ _ _ (by decide)]; exact h.bg.chg hc (fun e => (h.apart 5 gb e).1 rfl)
  · rw [up_other _ _ _ _ (by omega)]; exact m2 o h1 h4
/-- what was got grows, and is stored -/
theorem OM.got (h : OM w0 u q qb gb mb n S V L) {v : Value} {l : List Int} (hg : u.grownBy u' (V 6).ownBlock) (hr : u'.ownsRow w0.heap.size 3 1 v l.length (ics l)) (hb : v.ownBlock = (V 6).ownBlock ∨ ∀ k, v.ownBlock = some k → u.heap.size ≤ k) : OM w0 (u'.setCell ⟨gb, 0, none⟩ v) q qb gb mb n S (up V 6 v) (up L 6 l) ∧ Box u' gb #[V 6] 52 := by
  obtain ⟨M, m1, m2⟩ := h.mp
  have hc := Chg.ofGrown hg
  have hbg := h.bg.chg hc (fun e => (h.apart 6 gb e).1 rfl)
  have m1' := m1.stay (hc.block mb m1.lt (fun e => (h.apart 6 mb e).2.1 rfl))
  have hs : Chg (fun k => k = gb) u' (u'.setCell ⟨gb, 0, none⟩ v) := (Chg.refl _ u').setCell gb 0 v (fun _ => rfl)
  have hvn : ∀ b, v.ownBlock = some b → ¬ (b = gb ∨ b = mb) := fun b e => by
    obtain ⟨cs, hx⟩ := ownsRow_box hr b e
    exact fun e' => e'.elim (Box.ne hx hbg (by decide)) (fun e' => m1'.noBox hx e'.symm)
  refine ⟨⟨(h.oc.put 6 hg hr hb).away hs (fun b e => .inl e) h.nqb (fun i b e => ?_), ?_, M, m1'.stay (hs.block mb m1'.lt (fun e => m1'.noBox hbg e)), fun o h1 h4 => ?_⟩, hbg⟩
  · by_cases hi : i = 6
    · subst hi; rw [up_same] at e; exact hvn b e
    · rw [up_other _ _ _ _ hi] at e; exact fun e' => e'.elim (h.apart i b e).1 (h.apart i b e).2.1
  · rw [up_same]; have := hbg.store 0 v; simpa using this
  · rw [up_other _ _ _ _ (by omega)]; exact m2 o h1 h4
theorem OM.look (h : OM w0 u q qb gb mb n S V L) (o : Int) (h1 : 1 ≤ o) (h4 : o ≤ 4) : (Instr.lookup 51 (.map (some mb)) (.int .i64 o) false).run Try.prog u = .ok (V o) u := by
  obtain ⟨M, m1, m2⟩ := h.mp
  rw [← m2 o h1 h4]
  exact m1.look 51 52 (.slice none 0 0) Try.underlying51 Try.zeroValue52 o (WalkArith.wf_i64 (by omega))
/-- one of the rows that wait grows, and is put down in the map -/
theorem OM.wait (h : OM w0 u q qb gb mb n S V L) (hn : n < maxLen) (o : Int) (h1 : 1 ≤ o) (h4 : o ≤ 4) {v : Value} {l : List Int} (hg : u.grownBy u' (V o).ownBlock) (hr : u'.ownsRow w0.heap.size 3 1 v l.length (ics l)) (hb : v.ownBlock = (V o).ownBlock ∨ ∀ k, v.ownBlock = some k → u.heap.size ≤ k) :
    ∃ u2, (Instr.mapUpdate 51 (.map (some mb)) (.int .i64 o) v).run Try.prog u' = .ok () u2 ∧ OM w0 u2 q qb gb mb (n + 1) S (up V o v) (up L o l) := by
  obtain ⟨M, m1, m2⟩ := h.mp
  have hc := Chg.ofGrown hg
  have hbg := h.bg.chg hc (fun e => (h.apart o gb e).1 rfl)
  have m1' := m1.stay (hc.block mb m1.lt (fun e => (h.apart o mb e).2.1 rfl))
  obtain ⟨u2, r, m3, g2⟩ := m1'.update hn 51 52 Try.underlying51 o (WalkArith.wf_i64 (by omega)) v
  have hs : Chg (fun k => k = mb) u' u2 := (Chg.ofGrown g2).mono (fun k _ e => by injection e with e; exact e.symm)
  refine ⟨u2, r, (h.oc.put o hg hr hb).away hs (fun b e => .inr e) h.nqb (fun i b e => ?_), ?_, _, m3, fun j j1 j4 => ?_⟩
  · by_cases hi : i = o
    · subst hi
      rw [up_same] at e
      obtain ⟨cs, hx⟩ := ownsRow_box hr b e
      exact fun e' => e'.elim (Box.ne hx hbg (by decide)) (fun e' => m1'.noBox hx e'.symm)
    · rw [up_other _ _ _ _ hi] at e; exact fun e' => e'.elim (h.apart i b e).1 (h.apart i b e).2.1
  · rw [up_other _ _ _ _ (by omega)]; exact hbg.chg hs (fun e => m1'.noBox hbg e.symm)
  · by_cases e : j = o
    · rw [if_pos e, e, up_same]; rfl
    · rw [if_neg e, up_other _ _ _ _ e]; exact m2 j j1 j4
/-- one of the rows that wait is let go -/
theorem OM.cut (h : OM w0 u q qb gb mb n S V L) (hn : n < maxLen) (o : Int) (h1 : 1 ≤ o) (h4 : o ≤ 4) :
    ∃ u2, (Instr.mapUpdate 51 (.map (some mb)) (.int .i64 o) (.slice none 0 0)).run Try.prog u = .ok () u2 ∧ OM w0 u2 q qb gb mb (n + 1) S (up V o (.slice none 0 0)) (up L o []) := by
  obtain ⟨M, m1, m2⟩ := h.mp
  obtain ⟨u2, r, m3, g2⟩ := m1.update hn 51 52 Try.underlying51 o (WalkArith.wf_i64 (by omega)) (.slice none 0 0)
  have hs : Chg (fun k => k = mb) u u2 := (Chg.ofGrown g2).mono (fun k _ e => by injection e with e; exact e.symm)
  refine ⟨u2, r, (h.oc.away hs (fun b e => .inr e) h.nqb (fun i b e e' => e'.elim (h.apart i b e).1 (h.apart i b e).2.1)).nil o, ?_, _, m3, fun j j1 j4 => ?_⟩
  · rw [up_other _ _ _ _ (by omega)]; exact h.bg.chg hs (fun e => m1.noBox h.bg e.symm)
  · by_cases e : j = o
    · rw [if_pos e, e, up_same]; rfl
    · rw [if_neg e, up_other _ _ _ _ e]; exact m2 j j1 j4
end
end Go.Proofs.Ytlbnilendcelkaa
