/-
  A queue in memory; what is picked out of a row.
-/
import Derived.Test.YtlbnilendcelkaaSrt
import Derived.Deep.CutRange
namespace Go.Proofs.Ytlbnilendcelkaa
open Go.RowKit
section
variable {F : Type}
/-- those at the places that ans tells -/
def sel (ans : Nat → Bool) (l : List F) : List F := (l.zipIdx.filter fun p => ans p.2).map (·.1)
theorem sel_take (ans : Nat → Bool) (l : List F) (k : Nat) (h : k < l.length) : sel ans (l.take (k + 1)) = sel ans (l.take k) ++ if ans k then [l[k]] else [] := by
  rw [List.take_succ_eq_append_getElem h]
  unfold sel
  rw [List.zipIdx_append, List.filter_append, List.map_append]
  congr 1
  have e : (l.take k).length = k := by simp; omega
  simp only [e, List.zipIdx_singleton, Nat.zero_add]
  by_cases ha : ans k = true <;> simp [ha]
theorem sel_two (ans : Nat → Bool) (l : List F) : (sel ans l).length + (sel (fun k => !ans k) l).length = l.length := by
  unfold sel
  rw [List.length_map, List.length_map]
  have : ∀ (m : List (F × Nat)), (m.filter fun p => ans p.2).length + (m.filter fun p => !ans p.2).length = m.length := fun m => by
    induction m with
    | nil => rfl
    | cons x m ih => by_cases h : ans x.2 = true <;> simp [h] <;> omega
  rw [this]; simp
theorem sel_filter (p : F → Bool) (l : List F) (ans : Nat → Bool) (h : ∀ k (hk : k < l.length), ans k = p l[k]) : sel ans l = l.filter p := by
  have : ∀ n, n ≤ l.length → sel ans (l.take n) = (l.take n).filter p := fun n hn => by
    induction n with
    | zero => simp [sel]
    | succ n ih =>
      rw [sel_take ans l n (by omega), ih (by omega), List.take_succ_eq_append_getElem (by omega : n < l.length), List.filter_append, h n (by omega)]
      by_cases hp : p l[n] = true <;> simp [hp]
  have := this l.length (Nat.le_refl _)
  rwa [List.take_length] at this
end
/-- what waits, what is due -/
structure QS (α : Type) where
  wait : List (En α)
  due : List (En α)
variable {α : Type}
def ptr (g : Nat) : Value := .pointer (some ⟨g, 0, none⟩)
structure IsQ (X : Enc (En α)) (tQ tE : TypeId) (w : World) (B q : Nat) (S : QS α) (F : Nat → Prop) (vw vd : Value) : Prop where
  fq : F q
  fB : ∀ k, F k → B ≤ k ∧ k < w.heap.size
  box : Box w q #[ptr q, vw, vd] tQ
  rw : IsRow X tE w B vw S.wait
  rd : IsRow X tE w B vd S.due
  fw : ∀ k, vw.ownBlock = some k → F k ∧ k ≠ q
  fd : ∀ k, vd.ownBlock = some k → F k ∧ k ≠ q
  ne : ∀ k, vw.ownBlock = some k → vd.ownBlock ≠ some k
  rm : S.wait.length + S.due.length ≤ 1024
def HasQ (X : Enc (En α)) (tQ tE : TypeId) (w : World) (B q : Nat) (S : QS α) (F : Nat → Prop) : Prop := ∃ vw vd, IsQ X tQ tE w B q S F vw vd ∧ Rise En.ver S.due
/-- what a call leaves: the queue as S', all but its blocks as it was -/
structure ToQ (X : Enc (En α)) (tQ tE : TypeId) (w : World) (B q : Nat) (S : QS α) (F : Nat → Prop) (w' : World) : Prop where
  is : ∃ F', (∀ k, F' k → F k ∨ w.heap.size ≤ k) ∧ HasQ X tQ tE w' B q S F'
  chg : Chg F w w'
theorem IsQ.chg {X : Enc (En α)} {tQ tE : TypeId} {w w' : World} {B q : Nat} {S : QS α} {F G : Nat → Prop} {vw vd : Value} (h : IsQ X tQ tE w B q S F vw vd) (k : Chg G w w') (hn : ∀ i, F i → ¬ G i) : IsQ X tQ tE w' B q S F vw vd :=
  ⟨h.fq, fun i hi => ⟨(h.fB i hi).1, Nat.lt_of_lt_of_le (h.fB i hi).2 k.size⟩, h.box.chg k (hn _ h.fq), h.rw.chg k (fun b hb => hn _ (h.fw b hb).1), h.rd.chg k (fun b hb => hn _ (h.fd b hb).1), h.fw, h.fd, h.ne, h.rm⟩
theorem IsQ.below {X : Enc (En α)} {tQ tE : TypeId} {w w' : World} {B q : Nat} {S : QS α} {F : Nat → Prop} {vw vd : Value} (h : IsQ X tQ tE w B q S F vw vd) (k : Below w.heap.size w w') : IsQ X tQ tE w' B q S F vw vd := h.chg (G := fun _ => False) (Chg.ofBelow k) (fun _ _ x => x)
theorem HasQ.chg {X : Enc (En α)} {tQ tE : TypeId} {w w' : World} {B q : Nat} {S : QS α} {F G : Nat → Prop} (h : HasQ X tQ tE w B q S F) (k : Chg G w w') (hn : ∀ i, F i → ¬ G i) : HasQ X tQ tE w' B q S F := by
  obtain ⟨vw, vd, h, hr⟩ := h
  exact ⟨vw, vd, h.chg k hn, hr⟩
theorem HasQ.below {X : Enc (En α)} {tQ tE : TypeId} {w w' : World} {B q : Nat} {S : QS α} {F : Nat → Prop} (h : HasQ X tQ tE w B q S F) (k : Below w.heap.size w w') : HasQ X tQ tE w' B q S F := h.chg (G := fun _ => False) (Chg.ofBelow k) (fun _ _ x => x)
theorem ToQ.same {X : Enc (En α)} {tQ tE : TypeId} {w w' : World} {B q : Nat} {S : QS α} {F : Nat → Prop} (h : HasQ X tQ tE w B q S F) (k : Below w.heap.size w w') : ToQ X tQ tE w B q S F w' := ⟨⟨F, fun _ h => .inl h, h.below k⟩, Chg.ofBelow k⟩
/-- boxes of one's own -/
abbrev Bx := Nat × Array Value × TypeId
def AllB (w : World) (K : List Bx) : Prop := ∀ x ∈ K, Box w x.1 x.2.1 x.2.2
theorem AllB.chg {w w' : World} {K : List Bx} {G : Nat → Prop} (h : AllB w K) (k : Chg G w w') (hn : ∀ x ∈ K, ¬ G x.1) : AllB w' K := fun x hx => (h x hx).chg k (hn x hx)
theorem infoI : (Try.prog.info? 33).map (fun i => (i.zero, i.size, i.bytes)) = some (some (.agg #[.int .i64 0, .int .i64 0, .int .i64 0]), 3, 24) := by kernel_rfl
theorem infoS : (Try.prog.info? 67).map (fun i => (i.zero, i.size, i.bytes)) = some (some (.agg #[.int .i64 0, .int .i64 0, .string .empty]), 3, 32) := by kernel_rfl
end Go.Proofs.Ytlbnilendcelkaa
