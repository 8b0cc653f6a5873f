/-
  A queue, a step a call.
-/
import Derived.Test.YtlbnilendcelkaaCmm
namespace Go.Proofs.Ytlbnilendcelkaa
open Go.RowKit
/-- a queue since w0, and rows that it has told -/
def Sit {α : Type} (X : Enc (En α)) (tQ tE : TypeId) (w0 : World) (q : Nat) (S : QS α) (R : List (Value × List (En α))) (u : World) : Prop := (∃ F, HasQ X tQ tE u w0.heap.size q S F ∧ ∀ p ∈ R, IsRow X tE u w0.heap.size p.1 p.2 ∧ ∀ b, p.1.ownBlock = some b → ¬ F b) ∧ Below w0.heap.size w0 u
theorem Sit.of {α : Type} {X : Enc (En α)} {tQ tE : TypeId} {w0 u u' : World} {q : Nat} {S' : QS α} {R : List (Value × List (En α))} {F : Nat → Prop} (hR : ∀ p ∈ R, IsRow X tE u w0.heap.size p.1 p.2 ∧ ∀ b, p.1.ownBlock = some b → ¬ F b) (hb : Below w0.heap.size w0 u) (hF : ∀ k, F k → w0.heap.size ≤ k) (h : ToQ X tQ tE u w0.heap.size q S' F u') : Sit X tQ tE w0 q S' R u' := by
  obtain ⟨⟨F', h1, h2⟩, h3⟩ := h
  refine ⟨⟨F', h2, fun p hp => ⟨(hR p hp).1.chg h3 (hR p hp).2, fun b e hf => ?_⟩⟩, hb.trans (h3.below hb.size hF)⟩
  rcases h1 b hf with h | h
  · exact (hR p hp).2 b e h
  · have := ((hR p hp).1.lt b e).1; omega
theorem Sit.drew {α : Type} {X : Enc (En α)} {tQ tE : TypeId} {w0 u : World} {q : Nat} {S : QS α} {R : List (Value × List (En α))} (h : Sit X tQ tE w0 q S R u) (n : Nat) : Sit X tQ tE w0 q S R (u.drewN n) := by
  obtain ⟨⟨F, h1, h2⟩, h3⟩ := h
  have hb : Below u.heap.size u (u.drewN n) := ⟨rfl, rfl, rfl, Nat.le_refl _, fun _ _ => rfl⟩
  exact ⟨⟨F, h1.below hb, fun p hp => ⟨(h2 p hp).1.chg (S := fun _ => False) (Chg.ofBelow hb) (fun _ _ x => x), (h2 p hp).2⟩⟩, ⟨h3.os, h3.tape, h3.output, h3.size, h3.block⟩⟩
theorem Sit.bel {α : Type} {X : Enc (En α)} {tQ tE : TypeId} {w0 u u' : World} {q : Nat} {S : QS α} {R : List (Value × List (En α))} (h : Sit X tQ tE w0 q S R u) (hb : Below u.heap.size u u') : Sit X tQ tE w0 q S R u' := by
  obtain ⟨⟨F, h1, h2⟩, h3⟩ := h
  exact ⟨⟨F, h1.below hb, fun p hp => ⟨(h2 p hp).1.chg (S := fun _ => False) (Chg.ofBelow hb) (fun _ _ x => x), (h2 p hp).2⟩⟩, h3.trans (hb.mono h3.size)⟩
namespace I
theorem Sit.new (w : World) : Calls Try.prog 7 #[] w fun r w' => ∃ q, r = .returned (ptr q) ∧ Sit eI 49 33 w q ⟨[], []⟩ [] w' :=
  (new_at w).mono (by
    rintro r w' ⟨q, F, rfl, h1, h2⟩
    exact ⟨q, rfl, ⟨F, h1, fun p hp => by simp at hp⟩, h2⟩)
theorem hF_of {w0 u : World} {q : Nat} {S : QS Int} {F : Nat → Prop} (h : HasQ eI 49 33 u w0.heap.size q S F) : ∀ k, F k → w0.heap.size ≤ k := by
  obtain ⟨_, _, h, _⟩ := h
  exact fun k hk => (h.fB k hk).1
theorem Sit.later {w0 u : World} {q : Nat} {S : QS Int} {R : List (Value × List (En Int))} (h : Sit eI 49 33 w0 q S R u) (o : Int) (a : Int) :
    Calls Try.prog 8 #[ptr q, .int .i64 o, .int .i64 a] u fun r u' => r = .returned (.int .i64 (S.later o a).1) ∧ Sit eI 49 33 w0 q (S.later o a).2 R u' := by
  obtain ⟨⟨F, h1, h2⟩, h3⟩ := h
  exact (later_at h1 o a).mono (fun r u' ⟨e, hT⟩ => ⟨e, Sit.of h2 h3 (hF_of h1) hT⟩)
theorem Sit.commit {w0 u : World} {q : Nat} {S : QS Int} {R : List (Value × List (En Int))} (h : Sit eI 49 33 w0 q S R u) (hsm : S.wait.length + S.due.length ≤ 1024) (o v : Int) :
    Calls Try.prog 9 #[ptr q, .int .i64 o, .int .i64 v] u fun r u' => r = .returned (.tuple #[.int .i64 (S.commit o v).1, .int .i64 (S.commit o v).2.1]) ∧ Sit eI 49 33 w0 q (S.commit o v).2.2 R u' := by
  obtain ⟨⟨F, h1, h2⟩, h3⟩ := h
  exact (commit_at h1 hsm o v).mono (fun r u' ⟨e, hT⟩ => ⟨e, Sit.of h2 h3 (hF_of h1) hT⟩)
theorem Sit.drop {w0 u : World} {q : Nat} {S : QS Int} {R : List (Value × List (En Int))} (h : Sit eI 49 33 w0 q S R u) (o : Int) :
    Calls Try.prog 15 #[ptr q, .int .i64 o] u fun r u' => r = .returned (.int .i64 (S.back o 0).1) ∧ Sit eI 49 33 w0 q (S.back o 0).2 R u' := by
  obtain ⟨⟨F, h1, h2⟩, h3⟩ := h
  exact (drop_at h1 o).mono (fun r u' ⟨e, hT⟩ => ⟨e, Sit.of h2 h3 (hF_of h1) hT⟩)
theorem Sit.take {w0 u : World} {q : Nat} {S : QS Int} {R : List (Value × List (En Int))} (h : Sit eI 49 33 w0 q S R u) (o : Int) :
    Calls Try.prog 10 #[ptr q, .int .i64 o] u fun r u' => ∃ v, r = .returned v ∧ Sit eI 49 33 w0 q (S.take o).2 (R ++ [(v, (S.take o).1)]) u' := by
  obtain ⟨⟨F, h1, h2⟩, h3⟩ := h
  refine (takeq_at h1 o).mono ?_
  rintro r u' ⟨v, rfl, g1, g2, F', g3, g4⟩
  have h5 := (Sit.of (S' := (S.take o).2) h2 h3 (hF_of h1) g2).2
  refine ⟨v, rfl, ⟨F', g4, fun p hp => ?_⟩, h5⟩
  rcases List.mem_append.1 hp with hp | hp
  · exact ⟨(h2 p hp).1.chg g2.chg (h2 p hp).2, fun b e hf => (h2 p hp).2 b e (g3 b hf)⟩
  · simp at hp
    subst hp
    refine ⟨base_of g1 h3.size, fun b e hf => ?_⟩
    have h6 := (g1.lt b e).2
    obtain ⟨_, _, h7, _⟩ := h1
    have := (h7.fB b (g3 b hf)).2
    omega
end I
namespace S
theorem Sit.new (w : World) : Calls Try.prog 31 #[] w fun r w' => ∃ q, r = .returned (ptr q) ∧ Sit eS 70 67 w q ⟨[], []⟩ [] w' :=
  (new_at w).mono (by
    rintro r w' ⟨q, F, rfl, h1, h2⟩
    exact ⟨q, rfl, ⟨F, h1, fun p hp => by simp at hp⟩, h2⟩)
theorem hF_of {w0 u : World} {q : Nat} {S : QS ByteArray} {F : Nat → Prop} (h : HasQ eS 70 67 u w0.heap.size q S F) : ∀ k, F k → w0.heap.size ≤ k := by
  obtain ⟨_, _, h, _⟩ := h
  exact fun k hk => (h.fB k hk).1
theorem Sit.later {w0 u : World} {q : Nat} {S : QS ByteArray} {R : List (Value × List (En ByteArray))} (h : Sit eS 70 67 w0 q S R u) (o : Int) (a : ByteArray) :
    Calls Try.prog 32 #[ptr q, .int .i64 o, .string a] u fun r u' => r = .returned (.int .i64 (S.later o a).1) ∧ Sit eS 70 67 w0 q (S.later o a).2 R u' := by
  obtain ⟨⟨F, h1, h2⟩, h3⟩ := h
  exact (later_at h1 o a).mono (fun r u' ⟨e, hT⟩ => ⟨e, Sit.of h2 h3 (hF_of h1) hT⟩)
theorem Sit.commit {w0 u : World} {q : Nat} {S : QS ByteArray} {R : List (Value × List (En ByteArray))} (h : Sit eS 70 67 w0 q S R u) (hsm : S.wait.length + S.due.length < 20) (o v : Int) :
    Calls Try.prog 33 #[ptr q, .int .i64 o, .int .i64 v] u fun r u' => r = .returned (.tuple #[.int .i64 (S.commit o v).1, .int .i64 (S.commit o v).2.1]) ∧ Sit eS 70 67 w0 q (S.commit o v).2.2 R u' := by
  obtain ⟨⟨F, h1, h2⟩, h3⟩ := h
  exact (commit_at h1 hsm o v).mono (fun r u' ⟨e, hT⟩ => ⟨e, Sit.of h2 h3 (hF_of h1) hT⟩)
theorem Sit.drop {w0 u : World} {q : Nat} {S : QS ByteArray} {R : List (Value × List (En ByteArray))} (h : Sit eS 70 67 w0 q S R u) (o : Int) :
    Calls Try.prog 35 #[ptr q, .int .i64 o] u fun r u' => r = .returned (.int .i64 (S.back o 0).1) ∧ Sit eS 70 67 w0 q (S.back o 0).2 R u' := by
  obtain ⟨⟨F, h1, h2⟩, h3⟩ := h
  exact (drop_at h1 o).mono (fun r u' ⟨e, hT⟩ => ⟨e, Sit.of h2 h3 (hF_of h1) hT⟩)
theorem Sit.take {w0 u : World} {q : Nat} {S : QS ByteArray} {R : List (Value × List (En ByteArray))} (h : Sit eS 70 67 w0 q S R u) (o : Int) :
    Calls Try.prog 34 #[ptr q, .int .i64 o] u fun r u' => ∃ v, r = .returned v ∧ Sit eS 70 67 w0 q (S.take o).2 (R ++ [(v, (S.take o).1)]) u' := by
  obtain ⟨⟨F, h1, h2⟩, h3⟩ := h
  refine (takeq_at h1 o).mono ?_
  rintro r u' ⟨v, rfl, g1, g2, F', g3, g4⟩
  have h5 := (Sit.of (S' := (S.take o).2) h2 h3 (hF_of h1) g2).2
  refine ⟨v, rfl, ⟨F', g4, fun p hp => ?_⟩, h5⟩
  rcases List.mem_append.1 hp with hp | hp
  · exact ⟨(h2 p hp).1.chg g2.chg (h2 p hp).2, fun b e hf => (h2 p hp).2 b e (g3 b hf)⟩
  · simp at hp
    subst hp
    refine ⟨base_of g1 h3.size, fun b e hf => ?_⟩
    have h6 := (g1.lt b e).2
    obtain ⟨_, _, h7, _⟩ := h1
    have := (h7.fB b (g3 b hf)).2
    omega
end S
end Go.Proofs.Ytlbnilendcelkaa
