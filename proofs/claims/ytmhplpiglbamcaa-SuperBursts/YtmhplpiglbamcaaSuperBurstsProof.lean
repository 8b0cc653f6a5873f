/-
  Proved: for every super, all extents, every place and every change of up to four bytes next to each other, SuperBursts answers true: GetSuper and GetNode refuse what PutSuper and PutNode made, once so changed in what the sum is of. No condition.
-/
import Derived.Test.YtmhplpiglbamcaaRows
import Derived.Test.YtmhplpiglbamcaaBursts
import Derived.WalkKit
import Derived.ProofKit
import Derived.OpenShut
import Derived.ChangeOld
import Derived.Below
namespace Go.Proofs.Ytmhplpiglbamcaa.superBursts
open Go.ChangeShapes Go.WideShapes Go.ChangeAt Go.RowKit
set_option linter.unusedVariables false

theorem own : ownKnob Try.prog.godebug = none := by kernel_rfl
theorem laidOut : laidOutB Try.prog = true := by kernel_rfl

/-! ### the walk -/
theorem walk (b0 e0 q0 t0 : Int) (a1 : Option Addr) (n1 c1 : Nat) (x1 : List Ext) (z2 : Int) (z3 : Int) (w : World) (xs1 : Exts w a1 n1 c1 x1) (wf2 : (Lit.int .i64 z2).wf = true) (wf3 : (Lit.int .u32 z3).wf = true) :
    Calls Try.prog 7 #[.agg #[.int .i64 b0, .int .i64 e0, .int .i64 q0, .int .i64 t0], .slice a1 n1 c1, .int .i64 z2, .int .u32 z3] w fun e w' => e = .returned (.bool true) ∧ Below w.heap.size w w' := by
  have b3 := u32_bounds wf3
  obtain ⟨ch, rfl⟩ := Int.eq_ofNat_of_zero_le b3.1
  by_cases h : 600 < n1 ∨ ch = 0
  · exact bursts_long b0 e0 q0 t0 z2 a1 n1 c1 ch w (by have := xs1.room; have := xs1.max; omega) h
  · exact bursts_any b0 e0 q0 t0 z2 a1 n1 c1 ch x1 w xs1.len (by omega) (by omega) (by omega) xs1.wf xs1.rd


/-! ### the row -/
set_option maxRecDepth 100000 in
theorem lifted (os : Os) (started : os.Started) (H : Type) (enc : TypeId × Value → H) :
    ReturnsInHanded {} Try.checked os 7 .any (Rows.superBurstsSpec.pre6 enc Try.prog Try.f7 Rows.superBurstsRow.domain false) (Rows.superBurstsSpec.post enc Try.prog Try.f7 false true false false) := by
  refine returnsInHanded_of_change (C := Try.checked) own started (by kernel_rfl) Try.func7
    (ChangeSpec.witness6 (enc := enc) (C := Try.checked) false ⟨#[], #[.agg #[.int .i64 0, .int .i64 0, .int .i64 0, .int .i64 0], .slice none 0 0, .int .i64 0, .int .u32 0], []⟩ 8 (by kernel_rfl) (by kernel_rfl) (by kernel_rfl) (by kernel_rfl)) ?_
  intro W base args ds gs before hval0 hW hcnd _
  have hval : ∀ (j : Nat) t v, Try.f7.params[j]? = some t → args[j]? = some v → Value.okWide Try.prog W .any base t v := hval0
  have hW' := hW
  obtain ⟨p, q, hA0, hV, rfl, hfz, hnd⟩ := hW
  have hA : DataW.TrodAll enc Try.prog W 0 (fun _ => true) true Try.f7.params.toList args.toList ds p := hA0
  rw [Try.params7] at hA hval
  obtain ⟨v0, vs0, d0, ds0, p0, q0, hargs, rfl, rfl, h0, r0⟩ := trodAll_cons hA
  obtain ⟨v1, vs1, d1, ds1, p1, q1, rfl, rfl, rfl, h1, r1⟩ := trodAll_cons r0
  obtain ⟨v2, vs2, d2, ds2, p2, q2, rfl, rfl, rfl, h2, r2⟩ := trodAll_cons r1
  obtain ⟨v3, vs3, d3, ds3, p3, q3, rfl, rfl, rfl, h3, r3⟩ := trodAll_cons r2
  obtain ⟨rfl, rfl, rfl⟩ := trodAll_nil r3
  obtain rfl : args = #[v0, v1, v2, v3] := by cases args; simp_all
  obtain ⟨rfl, rfl⟩ := trodVars_none hV
  obtain ⟨cs0, rfl, _⟩ := okWide_struct Try.underlying27 (hval 0 27 v0 rfl rfl)
  have k0 := h0
  have lt0 : ∀ x ∈ p0, x.block < W.heap.size := by obtain ⟨m, hm⟩ := k0; exact DataW.trod_lt m _ _ _ hm
  obtain ⟨b0, e0, q0, t0, hcs0⟩ : ∃ b e q t : Int, cs0.toList = [.int .i64 b, .int .i64 e, .int .i64 q, .int .i64 t] := by
    obtain ⟨fuel, hf⟩ := h0
    exact open_super hf
  obtain rfl : cs0 = #[.int .i64 b0, .int .i64 e0, .int .i64 q0, .int .i64 t0] := Array.toList_inj.1 (by simpa using hcs0)
  obtain ⟨a1, n1, c1, rfl⟩ := okWide_slice Try.underlying30 (hval 1 30 v1 rfl rfl)
  have k1 := h1
  have lt1 : ∀ x ∈ p1, x.block < W.heap.size := by obtain ⟨m, hm⟩ := k1; exact DataW.trod_lt m _ _ _ hm
  obtain ⟨x1, xs1⟩ : ∃ es, Exts W a1 n1 c1 es := by
    obtain ⟨fuel, hf⟩ := h1
    obtain ⟨a', n', c', es, hcs, hx⟩ := open_exts hf
    simp [Value.cells] at hcs
    obtain ⟨rfl, rfl, rfl⟩ := hcs
    exact ⟨es, hx⟩
  obtain ⟨z2, rfl, rfl, rfl, wf2⟩ := open_int Try.underlying3 (hval 2 3 v2 rfl rfl) h2
  obtain ⟨z3, rfl, rfl, rfl, wf3⟩ := open_int Try.underlying56 (hval 3 56 v3 rfl rfl) h3
  clear hA0 hval0
  refine (walk b0 e0 q0 t0 a1 n1 c1 x1 z2 z3 W xs1 wf2 wf3).mono fun e W' ⟨he, bel⟩ => ?_
  subst he
  exact ⟨_, rfl, _, _, _, [], _, [], hW', trodAll_mk1 (shut_bool Try.underlying4 _), (trodAll_cons_mk (Below.trod laidOut (by kernel_rfl) (of_decide_eq_true (by kernel_rfl)) k0 bel lt0) (trodAll_cons_mk (Below.trod laidOut (by kernel_rfl) (of_decide_eq_true (by kernel_rfl)) k1 bel lt1) (trodAll_cons_mk (shut_int Try.underlying3 wf2) (trodAll_cons_mk (shut_int Try.underlying56 wf3) trodAll_mk0)))), rfl, bel.frame _, fun h => by cases h⟩

theorem over : Rows.superBurstsRow.holds Try.pinned (OpenSpec.ofChange Rows.superBurstsSpec) :=
  OpenClaim.holds_of_wide 7 Try.f7 rfl rfl rfl rfl rfl rfl rfl ⟨rfl, rfl, rfl, rfl, rfl⟩ rfl rfl rfl rfl rfl (by kernel_rfl) Try.func7 (by kernel_rfl)
    (of_decide_eq_true (by kernel_rfl)) (by unfold Func.isWrapper; first | (rw [if_pos (by decide +kernel)]; kernel_rfl) | (rw [if_neg (by decide +kernel)]; exact ⟨rfl, rfl⟩))
    (fun os started H enc _ => lifted os started H enc)

end Go.Proofs.Ytmhplpiglbamcaa.superBursts
namespace Go.Proofs.Ytmhplpiglbamcaa
theorem superBursts_holds : Rows.SuperBurstsSaid := superBursts.over
#print axioms superBursts_holds
end Go.Proofs.Ytmhplpiglbamcaa
