/-
  SchedSteps: for any tasks (lists of what their steps do) and any picks, each pick that is told true is one step of one task that was ready, nobody who is blocked or over ever steps, and the steps of all are those picks; the call returns true and leaves its arguments as they were. No conditions.
-/
import Derived.Test.YtjhhncbadkpbaaaRows
import Derived.Test.YtjhhncbadkpbaaaStepsL
import Derived.Test.YtjhhncbadkpbaaaArgs
import Derived.Test.YtjhhncbadkpbaaaFactA
import Derived.Test.YtjhhncbadkpbaaaFactB
import Derived.Test.YtjhhncbadkpbaaaSchedStepsFactC
import Derived.Test.YtjhhncbadkpbaaaSchedStepsFactD
import Derived.WalkKit
import Derived.ProofKit
import Derived.OpenShut
import Derived.ChangeOld
import Derived.Below
namespace Go.Proofs.Ytjhhncbadkpbaaa.schedSteps
open Go.ChangeShapes Go.WideShapes Go.ChangeAt Go.RowKit
set_option linter.unusedVariables false

/-! ### the walk -/
theorem walk (a0 : Option Addr) (n0 c0 : Nat) (x0 : List PV) (a1 : Option Addr) (n1 c1 : Nat) (x1 : List Int) (w : World) (hl0 : x0.length = n0) (hr0 : RdPs w a0 x0) (hm0 : n0 ≤ c0) (hn0 : c0 ≤ 9223372036854775807) (hl1 : x1.length = n1) (hr1 : RdK .u64 w a1 x1) (hn1 : n1 ≤ 9223372036854775807) (hw1 : ∀ z ∈ x1, (Lit.int .u64 z).wf = true) :
    Calls Try.prog 6 #[.slice a0 n0 c0, .slice a1 n1 c1] w fun e w' => e = .returned (.bool true) ∧ Below w.heap.size w w' := by
  exact steps_at a0 n0 c0 x0 a1 n1 c1 x1 w hl0 hr0 hm0 hn0 hl1 hr1 hn1 hw1

/-! ### the row -/
set_option maxRecDepth 100000 in
theorem lifted (os : Os) (started : os.Started) (H : Type) (enc : TypeId × Value → H) :
    ReturnsInHanded {} Try.checked os 6 .any (Rows.schedStepsSpec.pre6 enc Try.prog Try.f6 Rows.schedStepsRow.domain false) (Rows.schedStepsSpec.post enc Try.prog Try.f6 false true false false) := by
  refine returnsInHanded_of_change (C := Try.checked) V.own started (by kernel_rfl) Try.func6
    (ChangeSpec.witness6 (enc := enc) (C := Try.checked) false ⟨#[], #[.slice none 0 0, .slice none 0 0], []⟩ 8 (by kernel_rfl) (by kernel_rfl) (by kernel_rfl) (by kernel_rfl)) ?_
  intro W base args ds gs before hval0 hW hcnd _
  have hval : ∀ (j : Nat) t v, Try.f6.params[j]? = some t → args[j]? = some v → Value.okWide Try.prog W .any base t v := hval0
  have hW' := hW
  obtain ⟨p, q, hA0, hV, rfl, hfz, hnd⟩ := hW
  have hA : DataW.TrodAll enc Try.prog W 0 (fun _ => true) true Try.f6.params.toList args.toList ds p := hA0
  rw [Try.params6] at hA hval
  obtain ⟨v0, vs0, d0, ds0, p0, q0, hargs, rfl, rfl, h0, r0⟩ := trodAll_cons hA
  obtain ⟨v1, vs1, d1, ds1, p1, q1, rfl, rfl, rfl, h1, r1⟩ := trodAll_cons r0
  obtain ⟨rfl, rfl, rfl⟩ := trodAll_nil r1
  obtain rfl : args = #[v0, v1] := by cases args; simp_all
  obtain ⟨rfl, rfl⟩ := trodVars_none hV
  obtain ⟨a0, n0, c0, rfl⟩ := okWide_slice Try.underlying38 (hval 0 38 v0 rfl rfl)
  have k0 := h0
  have lt0 : ∀ x ∈ p0, x.block < W.heap.size := by obtain ⟨m, hm⟩ := k0; exact DataW.trod_lt m _ _ _ hm
  obtain ⟨x0, hl0, hr0, hm0, hn0⟩ : ∃ xs : List PV, xs.length = n0 ∧ RdPs W a0 xs ∧ n0 ≤ c0 ∧ c0 ≤ 9223372036854775807 := by
    obtain ⟨fuel, hf⟩ := h0
    obtain ⟨a', n', c', xs, hcs, hx⟩ := open_progs hf
    simp [Value.cells] at hcs
    obtain ⟨rfl, rfl, rfl⟩ := hcs
    exact ⟨xs, hx⟩
  obtain ⟨a1, n1, c1, rfl⟩ := okWide_slice Try.underlying64 (hval 1 64 v1 rfl rfl)
  have k1 := h1
  have lt1 : ∀ x ∈ p1, x.block < W.heap.size := by obtain ⟨m, hm⟩ := k1; exact DataW.trod_lt m _ _ _ hm
  obtain ⟨x1, hl1, hr1, hn1, hw1⟩ : ∃ xs : List Int, xs.length = n1 ∧ RdK .u64 W a1 xs ∧ n1 ≤ 9223372036854775807 ∧ ∀ z ∈ xs, (Lit.int .u64 z).wf = true := by
    obtain ⟨fuel, hf⟩ := h1
    obtain ⟨a', n', c', xs, hcs, hx⟩ := open_row Try.underlying64 Try.underlying34 (by kernel_rfl) hf
    simp [Value.cells] at hcs
    obtain ⟨rfl, rfl, rfl⟩ := hcs
    exact ⟨xs, hx⟩
  clear hA0 hval0
  refine (walk a0 n0 c0 x0 a1 n1 c1 x1 W hl0 hr0 hm0 hn0 hl1 hr1 hn1 hw1).mono fun e W' ⟨he, bel⟩ => ?_
  subst he
  exact ⟨_, rfl, _, _, _, [], _, [], hW', trodAll_mk1 (shut_bool Try.underlying4 _), (trodAll_cons_mk (Below.trod V.laidOut (by kernel_rfl) (of_decide_eq_true (by kernel_rfl)) k0 bel lt0) (trodAll_cons_mk (Below.trod V.laidOut (by kernel_rfl) (of_decide_eq_true (by kernel_rfl)) k1 bel lt1) trodAll_mk0)), rfl, bel.frame _, fun h => by cases h⟩

theorem fnm : Try.pinned.checked.prog.funcNamed Rows.schedStepsRow.func = some 6 := by kernel_rfl
theorem both {a b : Bool} (h : a = true) (k : b = true) : (a && b) = true := by rw [h, k]; rfl
set_option maxRecDepth 100000 in
theorem closed : joinedFacts Try.pinned.checked.prog 6 Try.f6 Rows.schedStepsSpec Rows.schedStepsRow = true := by
  unfold joinedFacts
  exact both (both (both (both (both (both (both (both (both (both (both (both (both (both (both (both (both (both (both (both (both (both (both (both (both (both (both (both (both (both (both (by kernel_rfl) V.laidOut) V.rowed) (by kernel_rfl)) (by kernel_rfl)) (by kernel_rfl)) (by kernel_rfl)) (by kernel_rfl)) (by kernel_rfl)) inp) unf) rec) nmd) (by kernel_rfl)) (by kernel_rfl)) (by kernel_rfl)) (by kernel_rfl)) (by kernel_rfl)) (by kernel_rfl)) (by kernel_rfl)) (by kernel_rfl)) (by kernel_rfl)) (by kernel_rfl)) (by kernel_rfl)) (by kernel_rfl)) (by kernel_rfl)) (by kernel_rfl)) (by kernel_rfl)) (by kernel_rfl)) (by kernel_rfl)) (by kernel_rfl)) (by kernel_rfl)
theorem inst : Try.f6.isInstance Try.pinned.checked.prog Rows.schedStepsRow.origin Rows.schedStepsRow.targs := of_decide_eq_true (by kernel_rfl)
theorem wrap : Try.f6.isWrapper Try.pinned.checked.prog Rows.schedStepsRow.wrapper Rows.schedStepsRow.mainSum := (by unfold Func.isWrapper; first | (rw [if_pos (by decide +kernel)]; kernel_rfl) | (rw [if_neg (by decide +kernel)]; exact ⟨rfl, rfl⟩))
theorem over : Rows.schedStepsRow.holds Try.pinned (OpenSpec.ofChange Rows.schedStepsSpec) :=
  OpenClaim.holds_of_wide 6 Try.f6 rfl rfl rfl rfl rfl rfl rfl ⟨rfl, rfl, rfl, rfl, rfl⟩ rfl rfl rfl rfl rfl fnm Try.func6 closed inst wrap
    (fun os started H enc _ => lifted os started H enc)

end Go.Proofs.Ytjhhncbadkpbaaa.schedSteps
namespace Go.Proofs.Ytjhhncbadkpbaaa
theorem schedSteps_holds : Rows.SchedStepsSaid := schedSteps.over
#print axioms schedSteps_holds
end Go.Proofs.Ytjhhncbadkpbaaa
