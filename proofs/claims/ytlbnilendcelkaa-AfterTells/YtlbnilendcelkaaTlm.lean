/-
  Both queues side by side: the program's and the document's own.
-/
import Derived.Test.YtlbnilendcelkaaRcm
import Derived.Test.YtlbnilendcelkaaOrA
import Derived.Test.YtlbnilendcelkaaNon
import Derived.Laws.StructEq
namespace Go.Proofs.Ytlbnilendcelkaa
open Go.RowKit Go.Maps
theorem fields33 : Try.prog.underlying 33 = some (.struct (Try.prog.fieldsOf 33)) := by kernel_rfl
theorem held33 : Try.prog.stoodInHeld 33 = false := by kernel_rfl
theorem guard33 : Try.prog.eqGuardType Try.prog.depth 33 = false := by kernel_rfl
theorem eq33 (u : World) (a b c : Int) : (Op.equalIn 10000 33 (.agg #[.int .i64 a, .int .i64 b, .int .i64 c]) (.agg #[.int .i64 a, .int .i64 b, .int .i64 c])).run Try.prog u = .ok true u := by
  rw [run_equalIn_agg u 9999 33 _ _ fields33 held33]
  simp only [Program.fieldsOf, Try.underlying33]
  simp [go_sem, Op.eqFields, Try.underlying3, Try.underlying2]
theorem neq33 (u : World) (a b c : Int) : (binOp .neq 33 (.agg #[.int .i64 a, .int .i64 b, .int .i64 c]) (.agg #[.int .i64 a, .int .i64 b, .int .i64 c])).run Try.prog u = .ok (.bool false) u := by
  rw [run_neq_struct, eq33]
  rfl
theorem guardN33 (u : World) (x y : Operand) (xs ys : Array Value) : (eqGuard .neq 33 x y (.agg xs) (.agg ys)).run Try.prog u = .ok () u := run_eqGuard_agg u .neq 33 x y xs ys guard33
theorem HasR.lt {w : World} {B r : Nat} {S : QS Int} {F : Nat → Prop} (h : HasR w B r S F) (k : Nat) (hk : F k) : B ≤ k ∧ k < w.heap.size := by
  obtain ⟨_, _, h, _⟩ := h
  exact h.fB k hk
/-- both, and boxes of one's own -/
structure TMx (w0 u : World) (q r : Nat) (S T : QS Int) (K : List Bx) (F G : Nat → Prop) : Prop where
  hq : HasQ eI 49 33 u w0.heap.size q S F
  hr : HasR u w0.heap.size r T G
  ap : ∀ k, F k → ¬ G k
  kn : ∀ x ∈ K, ¬ F x.1 ∧ ¬ G x.1
  bx : AllB u K
  bel : Below w0.heap.size w0 u
def TM (w0 u : World) (q r : Nat) (S T : QS Int) (K : List Bx) : Prop := ∃ F G, TMx w0 u q r S T K F G
theorem TM.bx {w0 u : World} {q r : Nat} {S T : QS Int} {K : List Bx} (h : TM w0 u q r S T K) : AllB u K := by
  obtain ⟨F, G, h⟩ := h
  exact h.bx
theorem TM.bel {w0 u : World} {q r : Nat} {S T : QS Int} {K : List Bx} (h : TM w0 u q r S T K) : Below w0.heap.size w0 u := by
  obtain ⟨F, G, h⟩ := h
  exact h.bel
section
variable {w0 u u' : World} {q r : Nat} {S S' T T' : QS Int} {K : List Bx}
theorem TMx.pq {F G : Nat → Prop} (h : TMx w0 u q r S T K F G) (t : ToQ eI 49 33 u w0.heap.size q S' F u') : ∃ F', TMx w0 u' q r S' T K F' G := by
  obtain ⟨h1, h2, h3, h4, h5, h6⟩ := h
  obtain ⟨F', g1, g2⟩ := t.is
  refine ⟨F', g2, h2.chg t.chg (fun k hk e => h3 k e hk), fun k hk hg => ?_, fun x hx => ⟨fun e => ?_, (h4 x hx).2⟩, h5.chg t.chg (fun x hx => (h4 x hx).1), h6.trans (t.chg.below h6.size fun k hk => (HasQ.lt h1 k hk).1)⟩
  · rcases g1 k hk with e | e
    · exact h3 k e hg
    · have := (HasR.lt h2 k hg).2; omega
  · rcases g1 _ e with e | e
    · exact (h4 x hx).1 e
    · have := (h5 x hx).lt; omega
theorem TMx.pr {F G : Nat → Prop} (h : TMx w0 u q r S T K F G) (t : ToR u w0.heap.size r T' G u') : ∃ G', TMx w0 u' q r S T' K F G' := by
  obtain ⟨h1, h2, h3, h4, h5, h6⟩ := h
  obtain ⟨G', g1, g2⟩ := t.is
  refine ⟨G', h1.chg t.chg (fun k hk e => h3 k hk e), g2, fun k hk hg => ?_, fun x hx => ⟨(h4 x hx).1, fun e => ?_⟩, h5.chg t.chg (fun x hx => (h4 x hx).2), h6.trans (t.chg.below h6.size fun k hk => (HasR.lt h2 k hk).1)⟩
  · rcases g1 k hg with e | e
    · exact h3 k hk e
    · have := (HasQ.lt h1 k hk).2; omega
  · rcases g1 _ e with e | e
    · exact (h4 x hx).2 e
    · have := (h5 x hx).lt; omega
theorem TM.pq (h : TM w0 u q r S T K) : ∃ F, HasQ eI 49 33 u w0.heap.size q S F ∧ ∀ S' u', ToQ eI 49 33 u w0.heap.size q S' F u' → TM w0 u' q r S' T K := by
  obtain ⟨F, G, h⟩ := h
  exact ⟨F, h.hq, fun S' u' t => by obtain ⟨F', h'⟩ := h.pq t; exact ⟨F', G, h'⟩⟩
theorem TM.pr (h : TM w0 u q r S T K) : ∃ G, HasR u w0.heap.size r T G ∧ ∀ T' u', ToR u w0.heap.size r T' G u' → TM w0 u' q r S T' K := by
  obtain ⟨F, G, h⟩ := h
  exact ⟨G, h.hr, fun S' u' t => by obtain ⟨F', h'⟩ := h.pr t; exact ⟨F, F', h'⟩⟩
theorem TM.below (h : TM w0 u q r S T K) (hb : Below u.heap.size u u') : TM w0 u' q r S T K := by
  obtain ⟨F, G, h1, h2, h3, h4, h5, h6⟩ := h
  exact ⟨F, G, h1.below hb, h2.below hb, h3, h4, h5.chg (G := fun _ => False) (Chg.ofBelow hb) (fun _ _ x => x), h6.trans (hb.mono h6.size)⟩
theorem TM.box (h : TM w0 u q r S T K) (cs : Array Value) (t : TypeId) : TM w0 (u.alloc (.cells cs t)) q r S T ((u.heap.size, cs, t) :: K) := by
  have hb := (Below.refl u.heap.size u).alloc (Nat.le_refl _) (.cells cs t)
  obtain ⟨F, G, h1, h2, h3, h4, h5, h6⟩ := h
  refine ⟨F, G, h1.below hb, h2.below hb, h3, fun x hx => ?_, fun x hx => ?_, h6.trans (hb.mono h6.size)⟩
  · rcases List.mem_cons.1 hx with rfl | hx
    · exact ⟨fun e => by have := (HasQ.lt h1 _ e).2; omega, fun e => by have := (HasR.lt h2 _ e).2; omega⟩
    · exact h4 x hx
  · rcases List.mem_cons.1 hx with rfl | hx
    · exact Box.new u cs t
    · exact (h5 x hx).below hb (h5 x hx).lt
theorem TM.less (h : TM w0 u q r S T K) {K' : List Bx} (hs : ∀ x ∈ K', x ∈ K) : TM w0 u q r S T K' := by
  obtain ⟨F, G, h1, h2, h3, h4, h5, h6⟩ := h
  exact ⟨F, G, h1, h2, h3, fun x hx => h4 x (hs x hx), fun x hx => h5 x (hs x hx), h6⟩
theorem TM.later (h : TM w0 u q r S S K) (o a : Int) : Calls Try.prog 8 #[ptr q, .int .i64 o, .int .i64 a] u fun e u1 => e = .returned (.int .i64 (S.later o a).1) ∧ AllB u1 K ∧ Calls Try.prog 13 #[ptr r, .int .i64 o, .int .i64 a] u1 fun e u2 => e = .returned (.int .i64 (S.later o a).1) ∧ TM w0 u2 q r (S.later o a).2 (S.later o a).2 K := by
  obtain ⟨F, h1, h2⟩ := h.pq
  refine (I.later_at h1 o a).mono (fun e u1 ⟨e1, t⟩ => ⟨e1, (h2 _ _ t).bx, ?_⟩)
  obtain ⟨G, h3, h4⟩ := (h2 _ _ t).pr
  exact (rlater_at h3 o a).mono (fun e u2 ⟨e1, t⟩ => ⟨e1, h4 _ _ t⟩)
theorem TM.commit (h : TM w0 u q r S S K) (o v : Int) : Calls Try.prog 9 #[ptr q, .int .i64 o, .int .i64 v] u fun e u1 => e = .returned (.tuple #[.int .i64 (S.commit o v).1, .int .i64 (S.commit o v).2.1]) ∧ AllB u1 K ∧ Calls Try.prog 14 #[ptr r, .int .i64 o, .int .i64 v] u1 fun e u2 => e = .returned (.tuple #[.int .i64 (S.commit o v).1, .int .i64 (S.commit o v).2.1]) ∧ TM w0 u2 q r (S.commit o v).2.2 (S.commit o v).2.2 K := by
  obtain ⟨F, h1, h2⟩ := h.pq
  have hsm : S.wait.length + S.due.length ≤ 1024 := by
    obtain ⟨_, _, h, _⟩ := h1
    exact h.rm
  refine (I.commit_at h1 hsm o v).mono (fun e u1 ⟨e1, t⟩ => ⟨e1, (h2 _ _ t).bx, ?_⟩)
  obtain ⟨G, h3, h4⟩ := (h2 _ _ t).pr
  exact (rcommit_at h3 o v).mono (fun e u2 ⟨e1, t⟩ => ⟨e1, h4 _ _ t⟩)
theorem TM.drop (h : TM w0 u q r S S K) (o : Int) : Calls Try.prog 15 #[ptr q, .int .i64 o] u fun e u1 => e = .returned (.int .i64 (S.back o 0).1) ∧ AllB u1 K ∧ Calls Try.prog 16 #[ptr r, .int .i64 o, .int .i64 0] u1 fun e u2 => e = .returned (.int .i64 (S.back o 0).1) ∧ TM w0 u2 q r (S.back o 0).2 (S.back o 0).2 K := by
  obtain ⟨F, h1, h2⟩ := h.pq
  refine (I.drop_at h1 o).mono (fun e u1 ⟨e1, t⟩ => ⟨e1, (h2 _ _ t).bx, ?_⟩)
  obtain ⟨G, h3, h4⟩ := (h2 _ _ t).pr
  exact (rback_at h3 o 0).mono (fun e u2 ⟨e1, t⟩ => ⟨e1, h4 _ _ t⟩)
theorem TM.back (h : TM w0 u q r S S K) (o m : Int) : Calls Try.prog 20 #[ptr q, .int .i64 o, .int .i64 m] u fun e u1 => e = .returned (.int .i64 (S.back o m).1) ∧ AllB u1 K ∧ Calls Try.prog 16 #[ptr r, .int .i64 o, .int .i64 m] u1 fun e u2 => e = .returned (.int .i64 (S.back o m).1) ∧ TM w0 u2 q r (S.back o m).2 (S.back o m).2 K := by
  obtain ⟨F, h1, h2⟩ := h.pq
  refine (I.back_at h1 o m).mono (fun e u1 ⟨e1, t⟩ => ⟨e1, (h2 _ _ t).bx, ?_⟩)
  obtain ⟨G, h3, h4⟩ := (h2 _ _ t).pr
  exact (rback_at h3 o m).mono (fun e u2 ⟨e1, t⟩ => ⟨e1, h4 _ _ t⟩)
theorem TM.mark (h : TM w0 u q r S S K) (o : Int) : Calls Try.prog 18 #[ptr q, .int .i64 o] u fun e u1 => e = .returned (.int .i64 ((S.mine o).length : Int)) ∧ AllB u1 K ∧ Calls Try.prog 19 #[ptr r, .int .i64 o] u1 fun e u2 => e = .returned (.int .i64 ((S.mine o).length : Int)) ∧ TM w0 u2 q r S S K := by
  obtain ⟨F, h1, h2⟩ := h.pq
  refine (mark_at h1 o).mono (fun e u1 ⟨e1, t⟩ => ⟨e1, (h.below t).bx, ?_⟩)
  obtain ⟨G, h3, h4⟩ := (h.below t).pr
  exact (rmark_at h3 o).mono (fun e u2 ⟨e1, t2⟩ => ⟨e1, by rw [t2]; exact h.below t⟩)
theorem TM.take (h : TM w0 u q r S S K) (o : Int) : Calls Try.prog 10 #[ptr q, .int .i64 o] u fun e u1 => ∃ v, e = .returned v ∧ AllB u1 K ∧ Calls Try.prog 17 #[ptr r, .int .i64 o] u1 fun e u2 => ∃ v2, e = .returned v2 ∧ IsRow eI 33 u2 u.heap.size v (S.take o).1 ∧ IsRow eR 46 u2 u.heap.size v2 (S.take o).1 ∧ TM w0 u2 q r (S.take o).2 (S.take o).2 K := by
  obtain ⟨F, G, h⟩ := h
  have hlt : ∀ k, G k → k < u.heap.size := fun k hk => (HasR.lt h.hr k hk).2
  refine (I.takeq_at h.hq o).mono (fun e u1 ⟨v, e1, hr, t, _⟩ => ?_)
  obtain ⟨F', h'⟩ := h.pq t
  refine ⟨v, e1, h'.bx, (rtake_at h'.hr o).mono (fun e u2 ⟨v2, e2, hr2, t2⟩ => ?_)⟩
  obtain ⟨G', h''⟩ := h'.pr t2
  refine ⟨v2, e2, hr.chg t2.chg (fun b hb hg => ?_), base_of' hr2 t.chg.size, F', G', h''⟩
  have := (hr.lt b hb).2
  have := hlt b hg
  omega
end
end Go.Proofs.Ytlbnilendcelkaa
