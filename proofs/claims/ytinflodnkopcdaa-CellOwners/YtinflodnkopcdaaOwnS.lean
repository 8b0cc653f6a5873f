/-
  A memory of six numbers beside the law's own row of who has what.
-/
import Derived.Test.YtinflodnkopcdaaOps2
import Derived.Test.YtinflodnkopcdaaAwake
import Derived.Test.YtinflodnkopcdaaArgs
import Derived.Test.YtinflodnkopcdaaVerP
namespace Go.Proofs.Ytinflodnkopcdaa
open Go.RowKit
def iv (z : Int) : Value := .int .i64 z
structure OS (u : World) (B m hb : Nat) (S : M) (H : List Int) : Prop where
  is : IsM 54 63 u B m S
  six : S.C.length = 6
  gd : Gd S
  bh : Box u hb (H.map iv).toArray 56
  hh : B ≤ hb
def M.owns (S : M) : List Int := S.C.map (·.own)
theorem OS.kt {u u' : World} {B m hb : Nat} {S : M} {H : List Int} (h : OS u B m hb S H) {p : TypeId → Prop} (hk : Kt p u u') (h1 : p 54) (h2 : p 63) (h3 : p 56) : OS u' B m hb S H :=
  ⟨h.is.kt hk h1 h2, h.six, h.gd, hk _ _ _ h.bh h3, h.hh⟩
theorem OS.below {u u' : World} {B m hb : Nat} {S : M} {H : List Int} (h : OS u B m hb S H) (hb' : Below u.heap.size u u') : OS u' B m hb S H := h.kt (p := fun _ => True) (Kt.below hb') trivial trivial trivial
theorem OS.to {u u' : World} {B m hb : Nat} {S S' : M} {H : List Int} (h : OS u B m hb S H) (t : To 54 63 u B m S' u') (hl : S'.C.length = S.C.length) (hg : Gd S') : OS u' B m hb S' H :=
  ⟨t.is, hl.trans h.six, hg, t.kt _ _ _ h.bh (by decide), h.hh⟩
theorem OS.put {u : World} {B m hb : Nat} {S : M} {H : List Int} (h : OS u B m hb S H) (i : Nat) (z : Int) : OS (u.setCell ⟨hb, i, none⟩ (.int .i64 z)) B m hb S (H.set i z) := by
  have k1 : Kt (fun t => t ≠ 56) u (u.setCell ⟨hb, i, none⟩ (.int .i64 z)) := (Kt.refl _ _).setCell h.bh (by simp) i _
  have b1 := h.bh.store i (.int .i64 z)
  rw [List.setIfInBounds_toArray] at b1
  refine ⟨h.is.kt k1 (by decide) (by decide), h.six, h.gd, ?_, h.hh⟩
  rw [List.map_set]; exact b1
theorem OS.put_below {u : World} {B m hb : Nat} {S : M} {H : List Int} (h : OS u B m hb S H) (i : Nat) (a : Value) : Below B u (u.setCell ⟨hb, i, none⟩ a) := by
  have g1 := grown_store u hb i a
  have hB := h.is.hB
  have h1 := h.hh
  exact ⟨g1.os, g1.tape, g1.output, g1.size, fun k hk => g1.block k (by omega) (by simp; omega)⟩
theorem OS.put_box {u : World} {B m hb : Nat} {S : M} {H : List Int} (h : OS u B m hb S H) (i : Nat) (a : Value) {g : Nat} {cs : Array Value} (hx : Box u g cs 38) : Box (u.setCell ⟨hb, i, none⟩ a) g cs 38 := by
  have k1 : Kt (fun t => t ≠ 56) u (u.setCell ⟨hb, i, none⟩ a) := (Kt.refl _ _).setCell h.bh (by simp) i _
  exact k1 _ _ _ hx (by decide)
theorem OS.cells {u : World} {B m hb : Nat} {S : M} {H : List Int} (h : OS u B m hb S H) {i : Nat} {z : Int} (hc : H[i]? = some z) : u.cell? ⟨hb, i, none⟩ = some (.int .i64 z) ∧ u.frozen? ⟨hb, i, none⟩ = false :=
  ⟨by rw [h.bh.cell]; simp [hc, iv], h.bh.frozen i⟩
theorem OS.start {w1 : World} {B m : Nat} (h : IsM 54 63 w1 B m (M0 6)) : OS (w1.alloc (.cells #[.int .i64 0, .int .i64 0, .int .i64 0, .int .i64 0, .int .i64 0, .int .i64 0] 56)) B m w1.heap.size (M0 6) (M0 6).owns := by
  have x1 := Box.new w1 #[.int .i64 0, .int .i64 0, .int .i64 0, .int .i64 0, .int .i64 0, .int .i64 0] 56
  have bb := (Below.refl w1.heap.size w1).alloc (Nat.le_refl _) (.cells #[.int .i64 0, .int .i64 0, .int .i64 0, .int .i64 0, .int .i64 0, .int .i64 0] 56)
  exact ⟨h.below bb, rfl, ⟨fun c hc => by simp [M0] at hc; rw [hc]; exact ⟨0, rfl⟩, fun c hc => by simp [M0] at hc; rw [hc]; exact ⟨Int.le_refl _, Int.le_refl _⟩⟩, x1, h.hB⟩
theorem M.adv_owns (S : M) : S.adv.1.owns = S.owns := by unfold M.adv; split <;> rfl
theorem M.put_owns (S : M) (j : Nat) (c : Cl) : (S.put (j : Int) c).owns = S.owns.set j c.own := by simp [M.owns, M.put, List.map_set]
/-- there is that cell, and such an owner -/
def Inn (i o : Int) : Prop := 0 ≤ i ∧ i < 6 ∧ 1 ≤ o
instance (i o : Int) : Decidable (Inn i o) := by unfold Inn; infer_instance
theorem Inn.cell {S : M} {i o : Int} (h : Inn i o) (h6 : S.C.length = 6) : ∃ (j : Nat) (c : Cl), i = (j : Int) ∧ j < 6 ∧ S.C[j]? = some c ∧ S.cell? i = some c ∧ S.owns[j]? = some c.own := by
  obtain ⟨h1, h2, h3⟩ := h
  have hl : i.toNat < S.C.length := by omega
  refine ⟨i.toNat, S.C[i.toNat], by omega, by omega, List.getElem?_eq_getElem hl, ?_, ?_⟩
  · simp [M.cell?, h1, hl]
  · simp [M.owns, hl]
theorem not_inn {S : M} {i o : Int} (h : ¬ Inn i o) (h6 : S.C.length = 6) : S.cell? i = none ∨ o < 1 := by
  by_cases ho : o < 1
  · exact .inr ho
  · left
    unfold M.cell?
    split
    · rw [List.getElem?_eq_none_iff]
      unfold Inn at h
      omega
    · rfl
theorem M.lock_out {S : M} {i o : Int} (h : ¬ Inn i o) (h6 : S.C.length = 6) : S.lock i o = (S, 2) := by
  rcases not_inn h h6 with hc | ho
  · simp [M.lock, hc]
  · cases hc : S.cell? i <;> simp [M.lock, hc, ho]
theorem M.unlock_out {S : M} {i o : Int} (h : ¬ Inn i o) (h6 : S.C.length = 6) : S.unlock i o = (S, 2) := by
  rcases not_inn h h6 with hc | ho
  · simp [M.unlock, hc]
  · cases hc : S.cell? i <;> simp [M.unlock, hc, ho]
theorem M.publish_out {S : M} {i o : Int} (v : Value) (k : Int) (h : ¬ Inn i o) (h6 : S.C.length = 6) : S.publish i o v k = (S, 2) := by
  rcases not_inn h h6 with hc | ho
  · simp [M.publish, hc]
  · cases hc : S.cell? i <;> simp [M.publish, hc, ho]
theorem M.lock_in {S : M} {i o : Int} {c : Cl} (h : 1 ≤ o) (hc : S.cell? i = some c) : (c.own ≠ 0 ∧ c.own ≠ o ∧ S.lock i o = (S, 130)) ∨ ((c.own = 0 ∨ c.own = o) ∧ S.lock i o = (S.put i { c with own := o }, 0)) := by
  have nlt : ¬ o < 1 := by omega
  by_cases ho : c.own ≠ 0 ∧ c.own ≠ o
  · exact .inl ⟨ho.1, ho.2, by simp [M.lock, hc, nlt, ho]⟩
  · refine .inr ⟨?_, by simp only [M.lock, hc, nlt, if_false, ho]⟩
    by_cases h0 : c.own = 0
    · exact .inl h0
    · right; simpa [h0] using ho
theorem M.unlock_in {S : M} {i o : Int} {c : Cl} (h : 1 ≤ o) (hc : S.cell? i = some c) : (c.own ≠ o ∧ S.unlock i o = (S, 130)) ∨ (c.own = o ∧ S.unlock i o = (S.put i { c with own := 0 }, 0)) := by
  have nlt : ¬ o < 1 := by omega
  by_cases ho : c.own = o
  · exact .inr ⟨ho, by simp [M.unlock, hc, nlt, ho]⟩
  · exact .inl ⟨ho, by simp [M.unlock, hc, nlt, ho]⟩
theorem M.publish_in {S : M} {i o : Int} {c : Cl} (v : Value) (k : Int) (h : 1 ≤ o) (hc : S.cell? i = some c) : (∃ e, e ≠ 0 ∧ S.publish i o v k = (S, e)) ∨ (c.own = o ∧ S.publish i o v k = (S.put i ⟨v, k, 0⟩, 0)) := by
  have nlt : ¬ o < 1 := by omega
  by_cases ho : c.own = o
  · by_cases hk : k ≤ c.ver ∨ S.k < k
    · exact .inl ⟨131, by decide, by simp [M.publish, hc, nlt, ho, hk]⟩
    · exact .inr ⟨ho, by simp [M.publish, hc, nlt, ho, hk]⟩
  · exact .inl ⟨130, by decide, by simp [M.publish, hc, nlt, ho]⟩
end Go.Proofs.Ytinflodnkopcdaa
