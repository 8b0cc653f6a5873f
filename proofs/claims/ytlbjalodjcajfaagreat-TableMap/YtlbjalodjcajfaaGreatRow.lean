/-
  What of memory stays, by blocks; rows of entries of three cells each.
-/
import Derived.Test.YtlbjalodjcajfaaGreatSet
import Derived.ArgAppend
import Derived.Deep.AppendLies
namespace Go.Proofs.YtlbjalodjcajfaaGreat
open Go.RowKit
/-! ### what stays, by blocks -/
/-- all but the blocks in S, and new ones, is as it was -/
structure Chg (S : Nat → Prop) (w w' : World) : Prop where
  os : w'.os = w.os
  tape : w'.tape = w.tape
  output : w'.output = w.output
  size : w.heap.size ≤ w'.heap.size
  block : ∀ k, k < w.heap.size → ¬ S k → w'.heap[k]? = w.heap[k]?
theorem Chg.refl (S : Nat → Prop) (w : World) : Chg S w w := ⟨rfl, rfl, rfl, Nat.le_refl _, fun _ _ _ => rfl⟩
theorem Chg.trans {S S' : Nat → Prop} {a b c : World} (h : Chg S a b) (k : Chg S' b c) (hs : ∀ i, i < a.heap.size → S' i → S i) : Chg S a c :=
  ⟨k.os.trans h.os, k.tape.trans h.tape, k.output.trans h.output, Nat.le_trans h.size k.size, fun i hi hn => (k.block i (Nat.lt_of_lt_of_le hi h.size) (fun x => hn (hs i hi x))).trans (h.block i hi hn)⟩
theorem Chg.mono {S S' : Nat → Prop} {a b : World} (h : Chg S a b) (hs : ∀ i, i < a.heap.size → S i → S' i) : Chg S' a b := ⟨h.os, h.tape, h.output, h.size, fun i hi hn => h.block i hi (fun x => hn (hs i hi x))⟩
theorem Chg.ofBelow {S : Nat → Prop} {a b : World} (h : Below a.heap.size a b) : Chg S a b := ⟨h.os, h.tape, h.output, h.size, fun i hi _ => h.block i hi⟩
theorem Chg.ofGrown {a b : World} {row : Option Nat} (h : a.grownBy b row) : Chg (fun k => row = some k) a b := ⟨h.os, h.tape, h.output, h.size, fun i hi hn => h.block i hi (fun e => hn e.symm)⟩
theorem Chg.below {S : Nat → Prop} {B : Nat} {a b : World} (h : Chg S a b) (hB : B ≤ a.heap.size) (hs : ∀ k, S k → B ≤ k) : Below B a b := ⟨h.os, h.tape, h.output, h.size, fun k hk => h.block k (Nat.lt_of_lt_of_le hk hB) (fun x => by have := hs k x; omega)⟩
theorem Chg.drew {S : Nat → Prop} {a b : World} (h : Chg S a b) (n : Nat) : Chg S a (b.drewN n) := ⟨h.os, h.tape, h.output, h.size, h.block⟩
theorem Chg.alloc {S : Nat → Prop} {a b : World} (h : Chg S a b) (o : Obj) : Chg S a (b.alloc o) := h.trans (S' := fun _ => False) ⟨rfl, rfl, rfl, by simp, fun k hk _ => Below.heap_alloc _ _ _ hk⟩ (fun _ _ x => x.elim)
theorem Chg.setCell {S : Nat → Prop} {a b : World} (h : Chg S a b) (g j : Nat) (v : Value) (hg : g < a.heap.size → S g) : Chg S a (b.setCell ⟨g, j, none⟩ v) :=
  h.trans (S' := fun k => k = g) ⟨rfl, rfl, rfl, by simp [World.setCell], fun k hk hn => heap_setCell_other b ⟨g, j, none⟩ k v hn⟩ (fun i hi x => by subst x; exact hg hi)
theorem Box.chg {S : Nat → Prop} {w w' : World} {g : Nat} {cs : Array Value} {t : TypeId} (h : Box w g cs t) (k : Chg S w w') (hn : ¬ S g) : Box w' g cs t := (k.block g h.lt hn).trans h
theorem chg_setCells (S : Nat → Prop) (g : Nat) : ∀ (vs : List Value) (o : Nat) (w : World), S g → Chg S w (w.setCells g o vs)
  | [], _, w, _ => Chg.refl _ _
  | v :: r, o, w, hg => by
    rw [World.setCells]
    exact ((Chg.refl S w).setCell g o v (fun _ => hg)).trans (chg_setCells S g r (o + 1) _ hg) (fun _ _ x => x)

/-! ### rows of three cells each -/
structure Enc (E : Type) where
  a : E → Value
  b : E → Value
  c : E → Value
  oa : ∀ e, (a e).oneCell' = true
  ob : ∀ e, (b e).oneCell' = true
  oc : ∀ e, (c e).oneCell' = true
variable {E : Type}
def Enc.f (X : Enc E) (e : E) : List Value := [X.a e, X.b e, X.c e]
def Enc.agg (X : Enc E) (e : E) : Value := .agg #[X.a e, X.b e, X.c e]
def flat (X : Enc E) (l : List E) : List Value := l.flatMap X.f
theorem flat_nil (X : Enc E) : flat X [] = [] := rfl
theorem flat_cons (X : Enc E) (e : E) (l : List E) : flat X (e :: l) = X.a e :: X.b e :: X.c e :: flat X l := rfl
theorem flat_app (X : Enc E) (l m : List E) : flat X (l ++ m) = flat X l ++ flat X m := by simp [flat]
theorem flat_len (X : Enc E) (l : List E) : (flat X l).length = l.length * 3 := by
  induction l with
  | nil => rfl
  | cons e l ih => rw [flat_cons]; simp [ih]; omega
theorem flat_get (X : Enc E) {l : List E} {i : Nat} {e : E} (h : l[i]? = some e) : (flat X l)[i * 3]? = some (X.a e) ∧ (flat X l)[i * 3 + 1]? = some (X.b e) ∧ (flat X l)[i * 3 + 2]? = some (X.c e) := by
  induction l generalizing i with
  | nil => simp at h
  | cons x l ih =>
    cases i with
    | zero => simp at h; subst h; simp [flat_cons]
    | succ i =>
      have := ih (i := i) (by simpa using h)
      rw [flat_cons, show (i + 1) * 3 = i * 3 + 1 + 1 + 1 by omega, show i * 3 + 1 + 1 + 1 + 1 = (i * 3 + 1) + 1 + 1 + 1 by omega, show i * 3 + 1 + 1 + 1 + 2 = (i * 3 + 2) + 1 + 1 + 1 by omega]
      simpa only [List.getElem?_cons_succ] using this
theorem flat_set (X : Enc E) {l : List E} {i : Nat} (h : i < l.length) (e : E) : (((flat X l).set (i * 3) (X.a e)).set (i * 3 + 1) (X.b e)).set (i * 3 + 2) (X.c e) = flat X (l.set i e) := by
  induction l generalizing i with
  | nil => simp at h
  | cons x l ih =>
    cases i with
    | zero => simp [flat_cons]
    | succ i =>
      have := ih (i := i) (by simpa using h)
      rw [flat_cons, show (i + 1) * 3 = i * 3 + 1 + 1 + 1 by omega, show i * 3 + 1 + 1 + 1 + 1 = (i * 3 + 1) + 1 + 1 + 1 by omega, show i * 3 + 1 + 1 + 1 + 2 = (i * 3 + 2) + 1 + 1 + 1 by omega]
      simp only [List.set_cons_succ, this, flat_cons]
theorem flat_take (X : Enc E) (l : List E) (n : Nat) (h : n ≤ l.length) : (flat X l).take (n * 3) = flat X (l.take n) := by
  have e : flat X l = flat X (l.take n) ++ flat X (l.drop n) := by rw [← flat_app, List.take_append_drop]
  rw [e, show n * 3 = (flat X (l.take n)).length by rw [flat_len, List.length_take, Nat.min_eq_left h], List.take_left]
theorem flat_one (X : Enc E) (l : List E) : ∀ v ∈ flat X l, v.oneCell' = true := by
  intro v hv
  obtain ⟨e, _, he⟩ := List.mem_flatMap.1 hv
  simp only [Enc.f, List.mem_cons, List.not_mem_nil, or_false] at he
  rcases he with rfl | rfl | rfl
  · exact X.oa e
  · exact X.ob e
  · exact X.oc e
/-- entries in a block, from its beginning on -/
structure Lay (X : Enc E) (t : TypeId) (w : World) (g cap : Nat) (l : List E) : Prop where
  le : l.length ≤ cap
  mx : cap ≤ maxLen
  cur : ∃ cur : Array Value, Box w g cur t ∧ cur.size = cap * 3 ∧ cur.toList.take (l.length * 3) = flat X l
def IsRow (X : Enc E) (t : TypeId) (w : World) (B : Nat) (v : Value) (l : List E) : Prop := w.ownsRow B t 3 v l.length (flat X l)
theorem IsRow.nil (X : Enc E) (t : TypeId) (w : World) (B : Nat) : IsRow X t w B (.slice none 0 0) [] := World.ownsRow_nil _ _ _ _
theorem IsRow.lay {X : Enc E} {t : TypeId} {w : World} {B : Nat} {v : Value} {l : List E} (h : IsRow X t w B v l) : (v = .slice none 0 0 ∧ l = []) ∨ ∃ g cap, v = .slice (some ⟨g, 0, none⟩) l.length cap ∧ B ≤ g ∧ Lay X t w g cap l := by
  rcases h.2 with ⟨h1, h2⟩ | ⟨g, cap, cur, h1, h2, h3, h4, h5, h6, h7⟩
  · exact .inl ⟨h1, List.length_eq_zero_iff.1 h2⟩
  · exact .inr ⟨g, cap, h1, h2, h4, h5, cur, h3, h6, h7⟩
theorem Lay.row {X : Enc E} {t : TypeId} {w : World} {B g cap : Nat} {l : List E} (h : Lay X t w g cap l) (hB : B ≤ g) : IsRow X t w B (.slice (some ⟨g, 0, none⟩) l.length cap) l := by
  obtain ⟨cur, h1, h2, h3⟩ := h.cur
  exact ⟨flat_len X l, .inr ⟨g, cap, cur, rfl, hB, h1, h.le, h.mx, h2, h3⟩⟩
theorem Lay.box {X : Enc E} {t : TypeId} {w : World} {g cap : Nat} {l : List E} (h : Lay X t w g cap l) : ∃ cs, Box w g cs t := by obtain ⟨c, h, _⟩ := h.cur; exact ⟨c, h⟩
theorem Lay.lt {X : Enc E} {t : TypeId} {w : World} {g cap : Nat} {l : List E} (h : Lay X t w g cap l) : g < w.heap.size := by obtain ⟨c, h⟩ := h.box; exact h.lt
theorem Lay.at' {X : Enc E} {t : TypeId} {w w' : World} {g cap : Nat} {l : List E} (h : Lay X t w g cap l) (k : w'.heap[g]? = w.heap[g]?) : Lay X t w' g cap l := by
  obtain ⟨c, h1, h2⟩ := h.cur
  exact ⟨h.le, h.mx, c, k.trans h1, h2⟩
theorem Lay.chg {S : Nat → Prop} {X : Enc E} {t : TypeId} {w w' : World} {g cap : Nat} {l : List E} (h : Lay X t w g cap l) (k : Chg S w w') (hn : ¬ S g) : Lay X t w' g cap l := h.at' (k.block g h.lt hn)
theorem IsRow.chg {S : Nat → Prop} {X : Enc E} {t : TypeId} {w w' : World} {B : Nat} {v : Value} {l : List E} (h : IsRow X t w B v l) (k : Chg S w w') (hn : ∀ b, v.ownBlock = some b → ¬ S b) : IsRow X t w' B v l := by
  rcases h.lay with ⟨rfl, rfl⟩ | ⟨g, cap, rfl, hB, hl⟩
  · exact IsRow.nil _ _ _ _
  · exact (hl.chg k (hn g rfl)).row hB
theorem IsRow.lt {X : Enc E} {t : TypeId} {w : World} {B : Nat} {v : Value} {l : List E} (h : IsRow X t w B v l) (b : Nat) (hb : v.ownBlock = some b) : b < w.heap.size ∧ B ≤ b := by
  rcases h.lay with ⟨rfl, rfl⟩ | ⟨g, cap, rfl, hB, hl⟩
  · cases hb
  · cases hb; exact ⟨hl.lt, hB⟩
theorem Lay.pre {X : Enc E} {t : TypeId} {w : World} {g cap : Nat} {l : List E} (h : Lay X t w g cap l) (n : Nat) (hn : n ≤ l.length) : Lay X t w g cap (l.take n) := by
  obtain ⟨c, h1, h2, h3⟩ := h.cur
  refine ⟨Nat.le_trans (by simp; omega) h.le, h.mx, c, h1, h2, ?_⟩
  have e : (l.take n).length = n := by simp; omega
  rw [e, ← flat_take X l n hn, ← h3, List.take_take, Nat.min_eq_left (by omega)]
theorem Lay.get {X : Enc E} {t : TypeId} {w : World} {g cap : Nat} {l : List E} (h : Lay X t w g cap l) {i : Nat} {e : E} (hi : l[i]? = some e) : w.cell? ⟨g, i * 3, none⟩ = some (X.a e) ∧ w.cell? ⟨g, i * 3 + 1, none⟩ = some (X.b e) ∧ w.cell? ⟨g, i * 3 + 2, none⟩ = some (X.c e) := by
  obtain ⟨c, h1, h2, h3⟩ := h.cur
  have hl := (List.getElem?_eq_some_iff.1 hi).1
  have hg := flat_get X hi
  rw [← h3] at hg
  simp only [List.getElem?_take] at hg
  rw [if_pos (by omega), if_pos (by omega), if_pos (by omega)] at hg
  refine ⟨by rw [h1.cell]; simpa using hg.1, by rw [h1.cell]; simpa using hg.2.1, by rw [h1.cell]; simpa using hg.2.2⟩
theorem Lay.frozen {X : Enc E} {t : TypeId} {w : World} {g cap : Nat} {l : List E} (h : Lay X t w g cap l) (j : Nat) : w.frozen? ⟨g, j, none⟩ = false := by obtain ⟨c, h⟩ := h.box; exact h.frozen j
theorem Lay.has {X : Enc E} {t : TypeId} {w : World} {g cap : Nat} {l : List E} (h : Lay X t w g cap l) (j : Nat) (hj : j < cap * 3) : (w.cell? ⟨g, j, none⟩).isSome = true := by
  obtain ⟨c, h1, h2, h3⟩ := h.cur
  rw [h1.cell]; simp; omega
/-- an entry is written whole -/
theorem Lay.set {X : Enc E} {t : TypeId} {w : World} {g cap : Nat} {l : List E} (h : Lay X t w g cap l) {i : Nat} (hi : i < l.length) (e : E) : Lay X t (((w.setCell ⟨g, i * 3, none⟩ (X.a e)).setCell ⟨g, i * 3 + 1, none⟩ (X.b e)).setCell ⟨g, i * 3 + 2, none⟩ (X.c e)) g cap (l.set i e) := by
  obtain ⟨c, h1, h2, h3⟩ := h.cur
  have b1 := ((h1.store (i * 3) (X.a e)).store (i * 3 + 1) (X.b e)).store (i * 3 + 2) (X.c e)
  refine ⟨by simpa using h.le, h.mx, _, b1, by simpa using h2, ?_⟩
  rw [← flat_set X hi e, ← h3]
  simp only [Array.toList_setIfInBounds, List.take_set, List.length_set]
/-- what is written behind the first n leaves these -/
theorem Lay.far {X : Enc E} {t : TypeId} {g cap : Nat} {l : List E} : ∀ (vs : List Value) (o : Nat) (w : World), Lay X t w g cap l → l.length * 3 ≤ o → Lay X t (w.setCells g o vs) g cap l
  | [], _, _, h, _ => h
  | v :: r, o, w, h, ho => by
    rw [World.setCells]
    refine Lay.far r (o + 1) _ ?_ (by omega)
    obtain ⟨c, h1, h2, h3⟩ := h.cur
    refine ⟨h.le, h.mx, _, h1.store o v, by simpa using h2, ?_⟩
    rw [Array.toList_setIfInBounds, List.take_set_of_le (by omega), h3]
theorem set3_app {α : Type} (F : List α) (a b c x y z : α) (r : List α) : (((((F ++ x :: y :: z :: r).set F.length a).set (F.length + 1) b).set (F.length + 1 + 1) c).take (F.length + 3)) = F ++ [a, b, c] := by
  rw [List.set_append_right _ _ (by omega), List.set_append_right _ _ (by omega), List.set_append_right _ _ (by omega), List.take_append]
  rw [show F.length - F.length = 0 by omega, show F.length + 1 - F.length = 1 by omega, show F.length + 1 + 1 - F.length = 2 by omega, show F.length + 3 - F.length = 3 by omega, List.take_of_length_le (by omega)]
  simp
/-- one more, within the room -/
theorem Lay.more {X : Enc E} {t : TypeId} {w : World} {g cap : Nat} {l : List E} (h : Lay X t w g cap l) (hc : l.length < cap) (e : E) : Lay X t (w.setCells g (l.length * 3) [X.a e, X.b e, X.c e]) g cap (l ++ [e]) := by
  obtain ⟨c, h1, h2, h3⟩ := h.cur
  have b1 := ((h1.store (l.length * 3) (X.a e)).store (l.length * 3 + 1) (X.b e)).store (l.length * 3 + 1 + 1) (X.c e)
  refine ⟨by simp; omega, h.mx, _, b1, by simpa using h2, ?_⟩
  simp only [Array.toList_setIfInBounds, List.length_append, List.length_singleton, flat_app]
  have hcl : c.toList.length = cap * 3 := by simpa using h2
  have e1 : c.toList = flat X l ++ c.toList.drop (l.length * 3) := by rw [← h3, List.take_append_drop]
  obtain ⟨d, hd⟩ : ∃ d, d = c.toList.drop (l.length * 3) := ⟨_, rfl⟩
  have hdl : 3 ≤ d.length := by rw [hd, List.length_drop]; omega
  rw [← hd] at e1
  rw [e1]
  match d, hdl with
  | x :: y :: z :: r, _ =>
    have hfl := flat_len X l
    rw [← hfl, show (l.length + 1) * 3 = (flat X l).length + 3 by rw [hfl]; omega]
    exact set3_app _ _ _ _ _ _ _ _
theorem hid {p : Prop} (h : p) : Hid p := h
def iof : Value → Int
  | .int _ n => n
  | _ => 0
end Go.Proofs.YtlbjalodjcajfaaGreat
