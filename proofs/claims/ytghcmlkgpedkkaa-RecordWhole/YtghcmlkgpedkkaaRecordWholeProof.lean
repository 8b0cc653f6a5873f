/-
  Proved: for any two groups, any numbers lost and either noughts, RecordWhole answers true: what is put is got back, and where any sectors are another group's or were never written, it is no group, or the other one whole. No condition.
-/
import Derived.Test.YtghcmlkgpedkkaaRows
import Derived.Test.YtghcmlkgpedkkaaArgW
import Derived.WalkKit
import Derived.ProofKit
import Derived.OpenShut
import Derived.ChangeOld
import Derived.Below
import Derived.SizedLaws
namespace Go.Proofs.Ytghcmlkgpedkkaa.recordWhole
open Go.ChangeShapes Go.WideShapes Go.ChangeAt Go.RowKit
set_option linter.unusedVariables false

theorem own : ownKnob Try.prog.godebug = none := by kernel_rfl
theorem laidOut : laidOutB Try.prog = true := by kernel_rfl

/-! ### the walk -/
theorem walk (e0 s0 : Int) (a0 : Option Addr) (n0 c0 : Nat) (x0 : List (Int × List UInt8)) (e1 s1 : Int) (a1 : Option Addr) (n1 c1 : Nat) (x1 : List (Int × List UInt8)) (a2 : Option Addr) (n2 c2 : Nat) (x2 : List Int) (z3 : Bool) (w : World) (hl0 : x0.length = n0) (hr0 : Imgs w a0 x0) (hn0 : n0 * 32 ≤ 140737488355328) (hl1 : x1.length = n1) (hr1 : Imgs w a1 x1) (hn1 : n1 * 32 ≤ 140737488355328) (hl2 : x2.length = n2) (hr2 : Ints w a2 x2) :
    Calls Try.prog 5 #[.agg #[.int .i64 e0, .int .i64 s0, .slice a0 n0 c0], .agg #[.int .i64 e1, .int .i64 s1, .slice a1 n1 c1], .slice a2 n2 c2, .bool z3] w fun e w' => e = .returned (.bool true) ∧ Below w.heap.size w w' := by
  exact whole_at e0 s0 e1 s1 a0 a1 n0 c0 n1 c1 x0 x1 a2 n2 c2 x2 z3 w hl0 hl1 hn0 hn1 hr0 hr1 hl2 hr2

/-! ### the row -/
set_option maxRecDepth 100000 in
theorem lifted (os : Os) (started : os.Started) (H : Type) (enc : TypeId × Value → H) :
    ReturnsInHanded {} Try.checked os 5 .any (Rows.recordWholeSpec.pre6 enc Try.prog Try.f5 Rows.recordWholeRow.domain false) (Rows.recordWholeSpec.post enc Try.prog Try.f5 false true false false) := by
  refine returnsInHanded_of_change_sized (C := Try.checked) own started (by kernel_rfl) Try.func5
    (ChangeSpec.witness6 (enc := enc) (C := Try.checked) false ⟨#[], #[.agg #[.int .i64 0, .int .i64 0, .slice none 0 0], .agg #[.int .i64 0, .int .i64 0, .slice none 0 0], .slice none 0 0, .bool false], []⟩ 8 (by kernel_rfl) (by kernel_rfl) (by kernel_rfl) (by kernel_rfl)) ?_
  intro W base args ds gs before hval0 hW hcnd hsz0 _
  have hval : ∀ (j : Nat) t v, Try.f5.params[j]? = some t → args[j]? = some v → Value.okWide Try.prog W .any base t v := hval0
  have hW' := hW
  obtain ⟨p, q, hA0, hV, rfl, hfz, hnd⟩ := hW
  have hA : DataW.TrodAll enc Try.prog W 0 (fun _ => true) true Try.f5.params.toList args.toList ds p := hA0
  have hsz : (DataW.weightsEach Try.prog (Try.f5.params.toList ++ Rows.recordWholeSpec.plain.varTypes Try.prog) (ds ++ gs)).all (· ≤ reachBytes) = true := hsz0
  rw [Try.params5] at hA hval hsz
  obtain ⟨v0, vs0, d0, ds0, p0, q0, hargs, rfl, rfl, h0, r0⟩ := trodAll_cons hA
  obtain ⟨v1, vs1, d1, ds1, p1, q1, rfl, rfl, rfl, h1, r1⟩ := trodAll_cons r0
  obtain ⟨v2, vs2, d2, ds2, p2, q2, rfl, rfl, rfl, h2, r2⟩ := trodAll_cons r1
  obtain ⟨v3, vs3, d3, ds3, p3, q3, rfl, rfl, rfl, h3, r3⟩ := trodAll_cons r2
  obtain ⟨rfl, rfl, rfl⟩ := trodAll_nil r3
  obtain rfl : args = #[v0, v1, v2, v3] := by cases args; simp_all
  obtain ⟨rfl, rfl⟩ := trodVars_none hV
  obtain ⟨cs0, rfl, _⟩ := okWide_struct Try.underlying28 (hval 0 28 v0 rfl rfl)
  have k0 := h0
  have lt0 : ∀ x ∈ p0, x.block < W.heap.size := by obtain ⟨m, hm⟩ := k0; exact DataW.trod_lt m _ _ _ hm
  obtain ⟨e0, s0, a0, n0, c0, x0, hcs0, hl0, hr0, hn0⟩ : ∃ (e s : Int) (a : Option Addr) (n cap : Nat) (xs : List (Int × List UInt8)), cs0.toList = [.int .i64 e, .int .i64 s, .slice a n cap] ∧ xs.length = n ∧ Imgs W a xs ∧ n * 32 ≤ 140737488355328 := by
    obtain ⟨fuel, hf⟩ := h0
    obtain ⟨e, s, a, n, cap, xs, hcs, hx, hy, _⟩ := open_group hf
    refine ⟨e, s, a, n, cap, xs, hcs, hx, hy, ?_⟩
    have hf2 : DataW.trod enc Try.prog W 0 (fun _ => true) true fuel 28 [.int .i64 e, .int .i64 s, .slice a n cap] = some (d0, p0) := hcs ▸ hf
    exact group_weigh hf2 (fun m hm => of_decide_eq_true (List.all_eq_true.1 hsz m (DataW.weights_mem_each (j := 0) rfl rfl m hm)))
  obtain rfl : cs0 = #[.int .i64 e0, .int .i64 s0, .slice a0 n0 c0] := Array.toList_inj.1 (by simpa using hcs0)
  obtain ⟨cs1, rfl, _⟩ := okWide_struct Try.underlying28 (hval 1 28 v1 rfl rfl)
  have k1 := h1
  have lt1 : ∀ x ∈ p1, x.block < W.heap.size := by obtain ⟨m, hm⟩ := k1; exact DataW.trod_lt m _ _ _ hm
  obtain ⟨e1, s1, a1, n1, c1, x1, hcs1, hl1, hr1, hn1⟩ : ∃ (e s : Int) (a : Option Addr) (n cap : Nat) (xs : List (Int × List UInt8)), cs1.toList = [.int .i64 e, .int .i64 s, .slice a n cap] ∧ xs.length = n ∧ Imgs W a xs ∧ n * 32 ≤ 140737488355328 := by
    obtain ⟨fuel, hf⟩ := h1
    obtain ⟨e, s, a, n, cap, xs, hcs, hx, hy, _⟩ := open_group hf
    refine ⟨e, s, a, n, cap, xs, hcs, hx, hy, ?_⟩
    have hf2 : DataW.trod enc Try.prog W 0 (fun _ => true) true fuel 28 [.int .i64 e, .int .i64 s, .slice a n cap] = some (d1, p1) := hcs ▸ hf
    exact group_weigh hf2 (fun m hm => of_decide_eq_true (List.all_eq_true.1 hsz m (DataW.weights_mem_each (j := 1) rfl rfl m hm)))
  obtain rfl : cs1 = #[.int .i64 e1, .int .i64 s1, .slice a1 n1 c1] := Array.toList_inj.1 (by simpa using hcs1)
  obtain ⟨a2, n2, c2, rfl⟩ := okWide_slice Try.underlying50 (hval 2 50 v2 rfl rfl)
  have k2 := h2
  have lt2 : ∀ x ∈ p2, x.block < W.heap.size := by obtain ⟨m, hm⟩ := k2; exact DataW.trod_lt m _ _ _ hm
  obtain ⟨x2, hl2, hr2⟩ : ∃ xs : List Int, xs.length = n2 ∧ Ints W a2 xs := by
    obtain ⟨fuel, hf⟩ := h2
    obtain ⟨a', n', c', xs, hcs, hx⟩ := open_ints3 hf
    simp [Value.cells] at hcs
    obtain ⟨rfl, rfl, rfl⟩ := hcs
    exact ⟨xs, hx⟩
  obtain ⟨z3, rfl, rfl, rfl⟩ := open_bool Try.underlying4 (hval 3 4 v3 rfl rfl) h3
  clear hA0 hval0
  refine (walk e0 s0 a0 n0 c0 x0 e1 s1 a1 n1 c1 x1 a2 n2 c2 x2 z3 W hl0 hr0 hn0 hl1 hr1 hn1 hl2 hr2).mono fun e W' ⟨he, bel⟩ => ?_
  subst he
  exact ⟨_, rfl, _, _, _, [], _, [], hW', trodAll_mk1 (shut_bool Try.underlying4 _), (trodAll_cons_mk (Below.trod laidOut (by kernel_rfl) (of_decide_eq_true (by kernel_rfl)) k0 bel lt0) (trodAll_cons_mk (Below.trod laidOut (by kernel_rfl) (of_decide_eq_true (by kernel_rfl)) k1 bel lt1) (trodAll_cons_mk (Below.trod laidOut (by kernel_rfl) (of_decide_eq_true (by kernel_rfl)) k2 bel lt2) (trodAll_cons_mk (shut_bool Try.underlying4 _) trodAll_mk0)))), rfl, bel.frame _, fun h => by cases h⟩

theorem over : Rows.recordWholeRow.holds Try.pinned (OpenSpec.ofChange Rows.recordWholeSpec) :=
  OpenClaim.holds_of_wide 5 Try.f5 rfl rfl rfl rfl rfl rfl rfl ⟨rfl, rfl, rfl, rfl, rfl⟩ rfl rfl rfl rfl rfl (by kernel_rfl) Try.func5 (by kernel_rfl)
    (of_decide_eq_true (by kernel_rfl)) (by unfold Func.isWrapper; first | (rw [if_pos (by decide +kernel)]; kernel_rfl) | (rw [if_neg (by decide +kernel)]; exact ⟨rfl, rfl⟩))
    (fun os started H enc _ => lifted os started H enc)

end Go.Proofs.Ytghcmlkgpedkkaa.recordWhole
namespace Go.Proofs.Ytghcmlkgpedkkaa
theorem recordWhole_holds : Rows.RecordWholeSaid := recordWhole.over
#print axioms recordWhole_holds
end Go.Proofs.Ytghcmlkgpedkkaa
