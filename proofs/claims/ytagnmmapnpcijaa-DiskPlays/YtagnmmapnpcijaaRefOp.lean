/-
  The document's disk: operation, Armed, Failing, At, Read.
-/
import Derived.Test.YtagnmmapnpcijaaRefD
namespace Go.Proofs.Ytagnmmapnpcijaa
open Go.RowKit

theorem Box.drewN {w : World} {g : Nat} {cs : Array Value} {t : TypeId} (h : Box w g cs t) (n : Nat) : Box (w.drewN n) g cs t := h
theorem below_drewN {B : Nat} {a w : World} (h : Below B a w) (n : Nat) : Below B a (w.drewN n) := ⟨h.os, h.tape, h.output, h.size, h.block⟩
theorem Box.all6 {w : World} {g : Nat} {v0 v1 v2 v3 v4 v5 : Value} {t : TypeId} (h : Box w g #[v0, v1, v2, v3, v4, v5] t) : w.cell? ⟨g, 0, none⟩ = some v0 ∧ w.cell? ⟨g, 1, none⟩ = some v1 ∧ w.cell? ⟨g, 2, none⟩ = some v2 ∧ w.cell? ⟨g, 3, none⟩ = some v3 ∧ w.cell? ⟨g, 4, none⟩ = some v4 ∧ w.cell? ⟨g, 5, none⟩ = some v5 :=
  ⟨h.cell 0, h.cell 1, h.cell 2, h.cell 3, h.cell 4, h.cell 5⟩
theorem Box.fr6 {w : World} {g : Nat} {cs : Array Value} {t : TypeId} (h : Box w g cs t) : w.frozen? ⟨g, 0, none⟩ = false ∧ w.frozen? ⟨g, 1, none⟩ = false ∧ w.frozen? ⟨g, 2, none⟩ = false ∧ w.frozen? ⟨g, 3, none⟩ = false ∧ w.frozen? ⟨g, 4, none⟩ = false ∧ w.frozen? ⟨g, 5, none⟩ = false :=
  ⟨h.frozen 0, h.frozen 1, h.frozen 2, h.frozen 3, h.frozen 4, h.frozen 5⟩

set_option maxHeartbeats 2000000 in
theorem rop_at (a1 a2 : Option Addr) (n1 c1 n2 c2 : Nat) (cnt am fl : Int) (dn : Bool) (w : World) (h1 : -1 ≤ am) (h2 : am ≤ 9223372036854775807) (h3 : -1 ≤ fl) (h4 : fl ≤ 9223372036854775807) :
    Calls Try.prog 59 #[.agg #[.slice a1 n1 c1, .slice a2 n2 c2, .int .i64 cnt, .bool dn, .int .i64 am, .int .i64 fl]] w fun r w' => r = .returned (.tuple #[.agg #[.slice a1 n1 c1, .slice a2 n2 c2, .int .i64 cnt, .bool (dn || (am == 0)), .int .i64 (opA dn am), .int .i64 (opA dn fl)], .int .i64 (opE dn am fl)]) ∧ Below w.heap.size w w' := by
  have B0 := ((Below.refl w.heap.size w).alloc (Nat.le_refl _) (.cells #[.slice a1 n1 c1, .slice a2 n2 c2, .int .i64 cnt, .bool dn, .int .i64 am, .int .i64 fl] 49)).alloc (by simp) (.cells #[.slice none 0 0, .slice none 0 0, .int .i64 0, .bool false, .int .i64 0, .int .i64 0] 49)
  have x0 := (Box.new w #[.slice a1 n1 c1, .slice a2 n2 c2, .int .i64 cnt, .bool dn, .int .i64 am, .int .i64 fl] 49).alloc (.cells #[.slice none 0 0, .slice none 0 0, .int .i64 0, .bool false, .int .i64 0, .int .i64 0] 49)
  have y0 := Box.new (w.alloc (.cells #[.slice a1 n1 c1, .slice a2 n2 c2, .int .i64 cnt, .bool dn, .int .i64 am, .int .i64 fl] 49)) #[.slice none 0 0, .slice none 0 0, .int .i64 0, .bool false, .int .i64 0, .int .i64 0] 49
  have sz : (w.alloc (.cells #[.slice a1 n1 c1, .slice a2 n2 c2, .int .i64 cnt, .bool dn, .int .i64 am, .int .i64 fl] 49)).heap.size = w.heap.size + 1 := by simp
  rw [sz] at y0
  clear sz
  cases dn
  · rcases (show (am < 0 ∧ ¬ 0 ≤ am ∧ am ≠ 0) ∨ am = 0 ∨ (0 < am ∧ 0 ≤ am ∧ am ≠ 0) by omega) with ⟨e, k1, k2⟩ | rfl | ⟨e, k1, k2⟩ <;> rcases (show (fl < 0 ∧ ¬ 0 ≤ fl ∧ fl ≠ 0) ∨ fl = 0 ∨ (0 < fl ∧ 0 ≤ fl ∧ fl ≠ 0) by omega) with ⟨e', k3, k4⟩ | rfl | ⟨e', k3, k4⟩
    all_goals go_enter Try.func59, Try.ntmps59
    all_goals go_upto_region 3 with fail
    all_goals go_quiet (fail)
    all_goals
      have x1 := x0.drewN nq
      have y1 := y0.drewN nq
      have B1 := below_drewN B0 nq
      generalize World.drewN _ nq = W at x1 y1 B1 ⊢
      clear x0 y0 B0
      obtain ⟨p0, p1, p2, p3, p4, p5⟩ := x1.all6
      obtain ⟨q0, q1, q2, q3, q4, q5⟩ := y1.all6
      obtain ⟨f0, f1, f2, f3, f4, f5⟩ := x1.fr6
      obtain ⟨g0, g1, g2, g3, g4, g5⟩ := y1.fr6
      go_wp2_with fail
      refine bodyPost_ret (hd := rfl) (hR := ⟨rfl, ?_⟩) (hr := ?_)
      · simp [results, Try.results59, go_sem, opA, opE, *] <;> omega
      · repeat (refine Below.setCell ?_ (by simp) _)
        exact B1
  · go_enter Try.func59, Try.ntmps59
    go_wp2
    refine bodyPost_ret (v := .tuple #[.agg #[.slice a1 n1 c1, .slice a2 n2 c2, .int .i64 cnt, .bool (true || (am == 0)), .int .i64 (opA true am), .int .i64 (opA true fl)], .int .i64 (opE true am fl)]) (by simp [results, Try.results59, go_sem, opA, opE]) rfl ⟨rfl, ((Below.refl w.heap.size w).alloc (Nat.le_refl _) _).alloc (by simp) _⟩
end Go.Proofs.Ytagnmmapnpcijaa
