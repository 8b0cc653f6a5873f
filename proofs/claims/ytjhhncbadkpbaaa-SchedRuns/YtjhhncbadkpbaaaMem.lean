/-
  Blocks in memory, and what of them stays; a sched's blocks: its own six cells, three rows of pointers, its entries.
-/
import Derived.Test.YtjhhncbadkpbaaaRows
import Derived.WalkKit
import Derived.WalkSpells
import Derived.WalkLawsBesides
import Derived.ProofKit
import Derived.Deep.QuietTactic
import Derived.BigQuiet
import Derived.Maps.AppendAt
namespace Go.Proofs.Ytjhhncbadkpbaaa
open Go.RowKit

/-! ### one block -/
def Box (w : World) (g : Nat) (cs : Array Value) (t : TypeId) : Prop := w.heap[g]? = some (.cells cs t (0, 0))
theorem Box.cell {w : World} {g : Nat} {cs : Array Value} {t : TypeId} (h : Box w g cs t) (j : Nat) : w.cell? ⟨g, j, none⟩ = cs[j]? := cell_of_row w g j cs t (0, 0) h
theorem Box.frozen {w : World} {g : Nat} {cs : Array Value} {t : TypeId} (h : Box w g cs t) (j : Nat) : w.frozen? ⟨g, j, none⟩ = false := frozen_of_row w g j cs t h
theorem Box.lt {w : World} {g : Nat} {cs : Array Value} {t : TypeId} (h : Box w g cs t) : g < w.heap.size := (Array.getElem?_eq_some_iff.1 h).1
theorem Box.below {w w' : World} {B g : Nat} {cs : Array Value} {t : TypeId} (h : Box w g cs t) (hb : Below B w w') (hg : g < B) : Box w' g cs t := (hb.block g hg).trans h
theorem Box.new (w : World) (cs : Array Value) (t : TypeId) : Box (w.alloc (.cells cs t)) w.heap.size cs t := heap_alloc_new w _
theorem Box.alloc {w : World} {g : Nat} {cs : Array Value} {t : TypeId} (h : Box w g cs t) (o : Obj) : Box (w.alloc o) g cs t := (Below.heap_alloc w o g h.lt).trans h
theorem Box.store {w : World} {g : Nat} {cs : Array Value} {t : TypeId} (h : Box w g cs t) (j : Nat) (v : Value) : Box (w.setCell ⟨g, j, none⟩ v) g (cs.setIfInBounds j v) t := heap_setCell_same w g j cs t v h
theorem Box.other {w : World} {g : Nat} {cs : Array Value} {t : TypeId} (h : Box w g cs t) (k j : Nat) (v : Value) (hk : g ≠ k) : Box (w.setCell ⟨k, j, none⟩ v) g cs t := (heap_setCell_other w ⟨k, j, none⟩ g v hk).trans h
theorem Box.ne {w : World} {g g' : Nat} {cs cs' : Array Value} {t t' : TypeId} (h : Box w g cs t) (h' : Box w g' cs' t') (ht : t ≠ t') : g ≠ g' := by
  intro e
  subst e
  unfold Box at h h'
  rw [h] at h'
  simp at h'
  exact ht h'.2
theorem Box.drew {w : World} {g : Nat} {cs : Array Value} {t : TypeId} (h : Box w g cs t) (n : Nat) : Box (w.drewN n) g cs t := h
theorem grown_store (w : World) (g j : Nat) (u : Value) : w.grownBy (w.setCell ⟨g, j, none⟩ u) (some g) :=
  ⟨rfl, rfl, rfl, by simp, fun k _ hk => heap_setCell_other w ⟨g, j, none⟩ k u (fun e => hk (by simp [e]))⟩
theorem grown_trans {a b c : World} {row : Option Nat} (h : a.grownBy b row) (k : b.grownBy c row) : a.grownBy c row :=
  ⟨k.os.trans h.os, k.tape.trans h.tape, k.output.trans h.output, Nat.le_trans h.size k.size, fun i hi hr => (k.block i (Nat.lt_of_lt_of_le hi h.size) hr).trans (h.block i hi hr)⟩

/-! ### what stays, by type -/
def Kt (p : TypeId → Prop) (w w' : World) : Prop := ∀ k cs t, Box w k cs t → p t → Box w' k cs t
theorem Kt.refl (p : TypeId → Prop) (w : World) : Kt p w w := fun _ _ _ h _ => h
theorem Kt.trans {p : TypeId → Prop} {a b c : World} (h : Kt p a b) (k : Kt p b c) : Kt p a c := fun i cs t x hp => k i cs t (h i cs t x hp) hp
theorem Kt.mono {p q : TypeId → Prop} {a b : World} (h : Kt p a b) (hq : ∀ t, q t → p t) : Kt q a b := fun i cs t x hp => h i cs t x (hq t hp)
theorem Kt.alloc {p : TypeId → Prop} {a b : World} (h : Kt p a b) (o : Obj) : Kt p a (b.alloc o) := fun i cs t x hp => (h i cs t x hp).alloc o
theorem Kt.drew {p : TypeId → Prop} {a b : World} (h : Kt p a b) (n : Nat) : Kt p a (b.drewN n) := h
theorem Kt.below {p : TypeId → Prop} {a b : World} (h : Below a.heap.size a b) : Kt p a b := fun _ _ _ x _ => x.below h x.lt
theorem Kt.grown {p : TypeId → Prop} {a b c : World} {row : Option Nat} (h : Kt p a b) (hg : b.grownBy c row) (t0 : TypeId) (hr : ∀ k, row = some k → ∃ cs, Box b k cs t0) (hp : ¬ p t0) : Kt p a c := fun i cs t x hpt => by
  have y := h i cs t x hpt
  refine (hg.block i y.lt (fun e => ?_)).trans y
  obtain ⟨cs', y'⟩ := hr i e.symm
  exact (y.ne y' (fun e => hp (e ▸ hpt))) rfl
theorem Kt.setCell {p : TypeId → Prop} {a b : World} (h : Kt p a b) {g : Nat} {cs : Array Value} {t0 : TypeId} (hb : Box b g cs t0) (hp : ¬ p t0) (j : Nat) (v : Value) : Kt p a (b.setCell ⟨g, j, none⟩ v) :=
  h.grown (grown_store b g j v) t0 (fun k e => by cases e; exact ⟨cs, hb⟩) hp
theorem ownsRow_kt {p : TypeId → Prop} {w w' : World} {B n : Nat} {e : TypeId} {size : Nat} {v : Value} {xs : List Value} (h : w.ownsRow B e size v n xs) (hk : Kt p w w') (hp : p e) : w'.ownsRow B e size v n xs := by
  refine ⟨h.1, ?_⟩
  rcases h.2 with h | ⟨g, cap, cur, rfl, hb, hg, r⟩
  · exact .inl h
  · exact .inr ⟨g, cap, cur, rfl, hb, hk g cur e hg hp, r⟩
theorem ownsRow_grown {w w' : World} {B n : Nat} {e : TypeId} {size : Nat} {v : Value} {xs : List Value} {row : Option Nat} (h : w.ownsRow B e size v n xs) (hg : w.grownBy w' row) (hr : ∀ k, v.ownBlock = some k → row ≠ some k) : w'.ownsRow B e size v n xs := by
  refine ⟨h.1, ?_⟩
  rcases h.2 with h | ⟨g, cap, cur, rfl, hb, hgb, r⟩
  · exact .inl h
  · exact .inr ⟨g, cap, cur, rfl, hb, (hg.block g (Box.lt hgb) (fun e => hr g rfl e.symm)).trans hgb, r⟩
theorem ownsRow_box {w : World} {B n : Nat} {e : TypeId} {size : Nat} {v : Value} {xs : List Value} (h : w.ownsRow B e size v n xs) (k : Nat) (hk : v.ownBlock = some k) : ∃ cs, Box w k cs e := by
  rcases h.2 with ⟨rfl, _⟩ | ⟨g, cap, cur, rfl, hb, hg, r⟩
  · cases hk
  · cases hk; exact ⟨cur, hg⟩
theorem ownsRow_cell {w : World} {B n : Nat} {e : TypeId} {v : Value} {xs : List Value} (h : w.ownsRow B e 1 v n xs) (j : Nat) (hj : j < n) : ∃ g cap, v = .slice (some ⟨g, 0, none⟩) n cap ∧ w.cell? ⟨g, j, none⟩ = xs[j]? := by
  rcases h.2 with ⟨rfl, rfl⟩ | ⟨g, cap, cur, rfl, hb, hg, _, _, _, ht⟩
  · omega
  · refine ⟨g, cap, rfl, ?_⟩
    rw [Box.cell hg j, ← ht, List.getElem?_take, if_pos (by omega)]
    simp
theorem ownsRow_slice {w : World} {B n : Nat} {e : TypeId} {size : Nat} {v : Value} {xs : List Value} (h : w.ownsRow B e size v n xs) : ∃ a cap, v = .slice a n cap := by
  rcases h.2 with ⟨rfl, rfl⟩ | ⟨g, cap, cur, rfl, _⟩
  · exact ⟨_, _, rfl⟩
  · exact ⟨_, _, rfl⟩

/-! ### a sched -/
def ptr (g : Nat) : Value := .pointer (some ⟨g, 0, none⟩)
/-- what an entry says -/
structure En where
  task : Value
  st : Nat
  n : Nat
def enC (i : Nat) (e : En) : Array Value := #[.int .i64 ((i + 1 : Nat) : Int), e.task, .int .u8 (e.st : Int), .int .i64 (e.n : Int)]
/-- its own cells, and its three rows, as lists of blocks -/
structure Rws (w : World) (B s : Nat) (vt va vl nv : Value) (wk : Bool) (T A L : List Nat) : Prop where
  hs : B ≤ s
  box : Box w s #[ptr s, vt, va, vl, nv, .bool wk] 63
  rt : w.ownsRow B 61 1 vt T.length (T.map ptr)
  ra : w.ownsRow B 61 1 va A.length (A.map ptr)
  rl : w.ownsRow B 61 1 vl L.length (L.map ptr)
  ta : ∀ k, vt.ownBlock = some k → va.ownBlock ≠ some k
  tl : ∀ k, vt.ownBlock = some k → vl.ownBlock ≠ some k
  al : ∀ k, va.ownBlock = some k → vl.ownBlock ≠ some k
theorem Rws.kt {w w' : World} {B s : Nat} {vt va vl nv : Value} {wk : Bool} {T A L : List Nat} (h : Rws w B s vt va vl nv wk T A L) {p : TypeId → Prop} (hk : Kt p w w') (h1 : p 61) (h3 : p 63) : Rws w' B s vt va vl nv wk T A L :=
  ⟨h.hs, hk _ _ _ h.box h3, ownsRow_kt h.rt hk h1, ownsRow_kt h.ra hk h1, ownsRow_kt h.rl hk h1, h.ta, h.tl, h.al⟩
theorem Rws.set {w : World} {B s : Nat} {vt va vl nv : Value} {wk : Bool} {T A L : List Nat} (h : Rws w B s vt va vl nv wk T A L) (j : Nat) (v : Value) (nv' : Value) (wk' : Bool) (e : (#[ptr s, vt, va, vl, nv, .bool wk] : Array Value).setIfInBounds j v = #[ptr s, vt, va, vl, nv', .bool wk']) : Rws (w.setCell ⟨s, j, none⟩ v) B s vt va vl nv' wk' T A L := by
  have hk : Kt (fun t => t ≠ 63) w (w.setCell ⟨s, j, none⟩ v) := (Kt.refl _ _).setCell h.box (by simp) j v
  have hb := h.box.store j v
  rw [e] at hb
  exact ⟨h.hs, hb, ownsRow_kt h.rt hk (by decide), ownsRow_kt h.ra hk (by decide), ownsRow_kt h.rl hk (by decide), h.ta, h.tl, h.al⟩
/-- the line's row is another one, where it was or anew -/
theorem Rws.line {w w1 : World} {B s : Nat} {vt va vl nv : Value} {wk : Bool} {T A L : List Nat} (h : Rws w B s vt va vl nv wk T A L) (hg : w.grownBy w1 vl.ownBlock) {vl' : Value} {L' : List Nat} (ho : w1.ownsRow B 61 1 vl' L'.length (L'.map ptr)) (hv : ∀ k, vl'.ownBlock = some k → vl.ownBlock = some k ∨ w.heap.size ≤ k) :
    Rws (w1.setCell ⟨s, 3, none⟩ vl') B s vt va vl' nv wk T A L' ∧ Box w1 s #[ptr s, vt, va, vl, nv, .bool wk] 63 := by
  have hbx : Box w1 s #[ptr s, vt, va, vl, nv, .bool wk] 63 := (hg.block s h.box.lt (fun e => by obtain ⟨cs, hc⟩ := ownsRow_box h.rl s e.symm; exact (h.box.ne hc (by decide)) rfl)).trans h.box
  have hk : Kt (fun t => t ≠ 63) w1 (w1.setCell ⟨s, 3, none⟩ vl') := (Kt.refl _ _).setCell hbx (by simp) 3 vl'
  have far : ∀ k, vt.ownBlock = some k ∨ va.ownBlock = some k → vl'.ownBlock ≠ some k := fun k hk e => by
    have hlt : k < w.heap.size := by rcases hk with hk | hk; exact (h.rt.lt k hk).2; exact (h.ra.lt k hk).2
    rcases hv k e with h1 | h1
    · rcases hk with hk | hk; exact h.tl k hk h1; exact h.al k hk h1
    · omega
  refine ⟨⟨h.hs, hbx.store 3 vl', ownsRow_kt (ownsRow_grown h.rt hg (fun k hk => h.tl k hk)) hk (by decide), ownsRow_kt (ownsRow_grown h.ra hg (fun k hk => h.al k hk)) hk (by decide), ownsRow_kt ho hk (by decide), h.ta, fun k hk => far k (.inl hk), fun k hk => far k (.inr hk)⟩, hbx⟩
theorem Rws.alive {w w1 : World} {B s : Nat} {vt va vl nv : Value} {wk : Bool} {T A L : List Nat} (h : Rws w B s vt va vl nv wk T A L) (hg : w.grownBy w1 va.ownBlock) {va' : Value} {A' : List Nat} (ho : w1.ownsRow B 61 1 va' A'.length (A'.map ptr)) (hv : ∀ k, va'.ownBlock = some k → va.ownBlock = some k ∨ w.heap.size ≤ k) :
    Rws (w1.setCell ⟨s, 2, none⟩ va') B s vt va' vl nv wk T A' L ∧ Box w1 s #[ptr s, vt, va, vl, nv, .bool wk] 63 := by
  have hbx : Box w1 s #[ptr s, vt, va, vl, nv, .bool wk] 63 := (hg.block s h.box.lt (fun e => by obtain ⟨cs, hc⟩ := ownsRow_box h.ra s e.symm; exact (h.box.ne hc (by decide)) rfl)).trans h.box
  have hk : Kt (fun t => t ≠ 63) w1 (w1.setCell ⟨s, 2, none⟩ va') := (Kt.refl _ _).setCell hbx (by simp) 2 va'
  have far : ∀ k, vt.ownBlock = some k ∨ vl.ownBlock = some k → va'.ownBlock ≠ some k := fun k hk e => by
    have hlt : k < w.heap.size := by rcases hk with hk | hk; exact (h.rt.lt k hk).2; exact (h.rl.lt k hk).2
    rcases hv k e with h1 | h1
    · rcases hk with hk | hk; exact h.ta k hk h1; exact h.al k h1 hk
    · omega
  refine ⟨⟨h.hs, hbx.store 2 va', ownsRow_kt (ownsRow_grown h.rt hg (fun k hk => h.ta k hk)) hk (by decide), ownsRow_kt ho hk (by decide), ownsRow_kt (ownsRow_grown h.rl hg (fun k hk e => h.al k e hk)) hk (by decide), fun k hk => far k (.inl hk), h.tl, fun k hk e => far k (.inr e) hk⟩, hbx⟩
theorem Rws.tasks {w w1 : World} {B s : Nat} {vt va vl nv : Value} {wk : Bool} {T A L : List Nat} (h : Rws w B s vt va vl nv wk T A L) (hg : w.grownBy w1 vt.ownBlock) {vt' : Value} {T' : List Nat} (ho : w1.ownsRow B 61 1 vt' T'.length (T'.map ptr)) (hv : ∀ k, vt'.ownBlock = some k → vt.ownBlock = some k ∨ w.heap.size ≤ k) :
    Rws (w1.setCell ⟨s, 1, none⟩ vt') B s vt' va vl nv wk T' A L ∧ Box w1 s #[ptr s, vt, va, vl, nv, .bool wk] 63 := by
  have hbx : Box w1 s #[ptr s, vt, va, vl, nv, .bool wk] 63 := (hg.block s h.box.lt (fun e => by obtain ⟨cs, hc⟩ := ownsRow_box h.rt s e.symm; exact (h.box.ne hc (by decide)) rfl)).trans h.box
  have hk : Kt (fun t => t ≠ 63) w1 (w1.setCell ⟨s, 1, none⟩ vt') := (Kt.refl _ _).setCell hbx (by simp) 1 vt'
  have far : ∀ k, va.ownBlock = some k ∨ vl.ownBlock = some k → vt'.ownBlock ≠ some k := fun k hk e => by
    have hlt : k < w.heap.size := by rcases hk with hk | hk; exact (h.ra.lt k hk).2; exact (h.rl.lt k hk).2
    rcases hv k e with h1 | h1
    · rcases hk with hk | hk; exact h.ta k h1 hk; exact h.tl k h1 hk
    · omega
  refine ⟨⟨h.hs, hbx.store 1 vt', ownsRow_kt ho hk (by decide), ownsRow_kt (ownsRow_grown h.ra hg (fun k hk e => h.ta k e hk)) hk (by decide), ownsRow_kt (ownsRow_grown h.rl hg (fun k hk e => h.tl k e hk)) hk (by decide), fun k hk e => far k (.inl e) hk, fun k hk e => far k (.inr e) hk, h.al⟩, hbx⟩

theorem nodup_inj {G : List Nat} (h : G.Nodup) {i j : Nat} (hi : i < G.length) (hj : j < G.length) (e : G[i] = G[j]) : i = j := by
  have hp := List.pairwise_iff_getElem.1 h
  rcases Nat.lt_trichotomy i j with h1 | h1 | h1
  · exact absurd e (hp i j hi hj h1)
  · exact h1
  · exact absurd e.symm (hp j i hj hi h1)
/-- the entries -/
structure Ents (w : World) (B : Nat) (G : List Nat) (E : List En) : Prop where
  len : E.length = G.length
  nd : G.Nodup
  hG : ∀ g ∈ G, B ≤ g
  en : ∀ (i : Nat) (h : i < G.length) (e : En), E[i]? = some e → Box w G[i] (enC i e) 70
theorem Ents.kt {w w' : World} {B : Nat} {G : List Nat} {E : List En} (h : Ents w B G E) {p : TypeId → Prop} (hk : Kt p w w') (hp : p 70) : Ents w' B G E := ⟨h.len, h.nd, h.hG, fun i hi e he => hk _ _ _ (h.en i hi e he) hp⟩
theorem Ents.set {w : World} {B : Nat} {G : List Nat} {E : List En} (h : Ents w B G E) (i : Nat) (hi : i < G.length) (e e' : En) (he : E[i]? = some e) (j : Nat) (v : Value) (hc : (enC i e).setIfInBounds j v = enC i e') : Ents (w.setCell ⟨G[i], j, none⟩ v) B G (E.set i e') := by
  refine ⟨by simpa using h.len, h.nd, h.hG, fun k hk x hx => ?_⟩
  by_cases e1 : k = i
  · subst e1
    rw [List.getElem?_set_self (by rw [h.len]; exact hi)] at hx
    cases hx
    have := (h.en k hi e he).store j v
    rw [hc] at this
    exact this
  · rw [List.getElem?_set_ne (Ne.symm e1)] at hx
    refine (h.en k hk x hx).other _ _ _ (fun e2 => e1 ?_)
    exact nodup_inj h.nd hk hi e2
theorem Ents.add {w : World} {B : Nat} {G : List Nat} {E : List En} (h : Ents w B G E) (hB : B ≤ w.heap.size) (e : En) : Ents (w.alloc (.cells (enC G.length e) 70)) B (G ++ [w.heap.size]) (E ++ [e]) := by
  have hlt : ∀ g ∈ G, g < w.heap.size := fun g hg => by
    obtain ⟨i, hi, rfl⟩ := List.getElem_of_mem hg
    exact (h.en i hi (E[i]'(by rw [h.len]; exact hi)) (List.getElem?_eq_getElem _)).lt
  refine ⟨by simp [h.len], ?_, ?_, fun k hk x hx => ?_⟩
  · rw [List.nodup_append]
    refine ⟨h.nd, by simp, ?_⟩
    intro a ha b hb e
    simp at hb
    subst hb
    subst e
    exact absurd (hlt _ ha) (Nat.lt_irrefl _)
  · intro g hg
    rcases List.mem_append.1 hg with h1 | h1
    · exact h.hG g h1
    · simp at h1; omega
  · by_cases e1 : k < G.length
    · rw [List.getElem?_append_left (by rw [h.len]; exact e1)] at hx
      have := (h.en k e1 x hx).alloc (.cells (enC G.length e) 70)
      rw [List.getElem_append_left e1]
      exact this
    · have e2 : k = G.length := by simp at hk; omega
      subst e2
      rw [List.getElem?_append_right (by rw [h.len]; exact Nat.le_refl _), h.len] at hx
      simp at hx
      subst hx
      have := Box.new w (enC G.length e) 70
      simpa using this
end Go.Proofs.Ytjhhncbadkpbaaa
