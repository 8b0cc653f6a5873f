/-
  Proved: for any group RecordSpares answers true: what Put and Get answer shares no memory with one another or with what was handed in. No condition.
-/
import Derived.Test.YtghcmlkgpedkkaaRows
import Derived.Test.YtghcmlkgpedkkaaSpares
import Derived.Test.YtghcmlkgpedkkaaArgG
import Derived.WalkKit
import Derived.ProofKit
import Derived.OpenShut
import Derived.ChangeOld
import Derived.Below
import Derived.SizedLaws
namespace Go.Proofs.Ytghcmlkgpedkkaa.recordSpares
open Go.ChangeShapes Go.WideShapes Go.ChangeAt Go.RowKit
set_option linter.unusedVariables false

theorem own : ownKnob Try.prog.godebug = none := by kernel_rfl
theorem laidOut : laidOutB Try.prog = true := by kernel_rfl

/-! ### the walk -/
theorem walk (e0 s0 : Int) (a0 : Option Addr) (n0 c0 : Nat) (x0 : List (Int × List UInt8)) (w : World) (hl0 : x0.length = n0) (hr0 : Imgs w a0 x0) (hn0 : n0 * 32 ≤ 140737488355328) (hb0 : ∀ i ∈ x0, i.2.length ≤ 140737488355328) :
    Calls Try.prog 6 #[.agg #[.int .i64 e0, .int .i64 s0, .slice a0 n0 c0]] w fun e w' => e = .returned (.bool true) ∧ Below w.heap.size w w' := by
  exact spares_at e0 s0 a0 n0 c0 x0 w hl0 hn0 hr0 hb0

/-! ### the row -/
set_option maxRecDepth 100000 in
theorem lifted (os : Os) (started : os.Started) (H : Type) (enc : TypeId × Value → H) :
    ReturnsInHanded {} Try.checked os 6 .any (Rows.recordSparesSpec.pre6 enc Try.prog Try.f6 Rows.recordSparesRow.domain false) (Rows.recordSparesSpec.post enc Try.prog Try.f6 false true false false) := by
  refine returnsInHanded_of_change_sized (C := Try.checked) own started (by kernel_rfl) Try.func6
    (ChangeSpec.witness6 (enc := enc) (C := Try.checked) false ⟨#[], #[.agg #[.int .i64 0, .int .i64 0, .slice none 0 0]], []⟩ 8 (by kernel_rfl) (by kernel_rfl) (by kernel_rfl) (by kernel_rfl)) ?_
  intro W base args ds gs before hval0 hW hcnd hsz0 _
  have hval : ∀ (j : Nat) t v, Try.f6.params[j]? = some t → args[j]? = some v → Value.okWide Try.prog W .any base t v := hval0
  have hW' := hW
  obtain ⟨p, q, hA0, hV, rfl, hfz, hnd⟩ := hW
  have hA : DataW.TrodAll enc Try.prog W 0 (fun _ => true) true Try.f6.params.toList args.toList ds p := hA0
  have hsz : (DataW.weightsEach Try.prog (Try.f6.params.toList ++ Rows.recordSparesSpec.plain.varTypes Try.prog) (ds ++ gs)).all (· ≤ reachBytes) = true := hsz0
  rw [Try.params6] at hA hval hsz
  obtain ⟨v0, vs0, d0, ds0, p0, q0, hargs, rfl, rfl, h0, r0⟩ := trodAll_cons hA
  obtain ⟨rfl, rfl, rfl⟩ := trodAll_nil r0
  obtain rfl : args = #[v0] := by cases args; simp_all
  obtain ⟨rfl, rfl⟩ := trodVars_none hV
  obtain ⟨cs0, rfl, _⟩ := okWide_struct Try.underlying28 (hval 0 28 v0 rfl rfl)
  have k0 := h0
  have lt0 : ∀ x ∈ p0, x.block < W.heap.size := by obtain ⟨m, hm⟩ := k0; exact DataW.trod_lt m _ _ _ hm
  obtain ⟨e0, s0, a0, n0, c0, x0, hcs0, hl0, hr0, hn0, hb0⟩ : ∃ (e s : Int) (a : Option Addr) (n cap : Nat) (xs : List (Int × List UInt8)), cs0.toList = [.int .i64 e, .int .i64 s, .slice a n cap] ∧ xs.length = n ∧ Imgs W a xs ∧ n * 32 ≤ 140737488355328 ∧ ∀ i ∈ xs, i.2.length ≤ 140737488355328 := by
    obtain ⟨fuel, hf⟩ := h0
    exact open_group_w hf (fun m hm => of_decide_eq_true (List.all_eq_true.1 hsz m (DataW.weights_mem_each (j := 0) rfl rfl m hm)))
  obtain rfl : cs0 = #[.int .i64 e0, .int .i64 s0, .slice a0 n0 c0] := Array.toList_inj.1 (by simpa using hcs0)
  clear hA0 hval0
  refine (walk e0 s0 a0 n0 c0 x0 W hl0 hr0 hn0 hb0).mono fun e W' ⟨he, bel⟩ => ?_
  subst he
  exact ⟨_, rfl, _, _, _, [], _, [], hW', trodAll_mk1 (shut_bool Try.underlying4 _), (trodAll_cons_mk (Below.trod laidOut (by kernel_rfl) (of_decide_eq_true (by kernel_rfl)) k0 bel lt0) trodAll_mk0), rfl, bel.frame _, fun h => by cases h⟩

theorem over : Rows.recordSparesRow.holds Try.pinned (OpenSpec.ofChange Rows.recordSparesSpec) :=
  OpenClaim.holds_of_wide 6 Try.f6 rfl rfl rfl rfl rfl rfl rfl ⟨rfl, rfl, rfl, rfl, rfl⟩ rfl rfl rfl rfl rfl (by kernel_rfl) Try.func6 (by kernel_rfl)
    (of_decide_eq_true (by kernel_rfl)) (by unfold Func.isWrapper; first | (rw [if_pos (by decide +kernel)]; kernel_rfl) | (rw [if_neg (by decide +kernel)]; exact ⟨rfl, rfl⟩))
    (fun os started H enc _ => lifted os started H enc)

end Go.Proofs.Ytghcmlkgpedkkaa.recordSpares
namespace Go.Proofs.Ytghcmlkgpedkkaa
theorem recordSpares_holds : Rows.RecordSparesSaid := recordSpares.over
#print axioms recordSpares_holds
end Go.Proofs.Ytghcmlkgpedkkaa
