/-
  SuperSpares: answers share no memory with one another or with what was handed in. No condition.
-/
import Derived.Test.YtmhplpiglbamcaaRows
import Derived.Test.YtmhplpiglbamcaaSparesW
import Derived.Test.YtmhplpiglbamcaaArgs
import Derived.WalkKit
import Derived.ProofKit
import Derived.OpenShut
import Derived.ChangeOld
import Derived.Below
namespace Go.Proofs.Ytmhplpiglbamcaa.superSpares
open Go.ChangeShapes Go.WideShapes Go.ChangeAt Go.RowKit
set_option linter.unusedVariables false

theorem own : ownKnob Try.prog.godebug = none := by kernel_rfl
theorem laidOut : laidOutB Try.prog = true := by kernel_rfl

/-! ### the walk -/
theorem walk (k0 : Nat) (l0 s0 d0 : Int) (a0 : Option Addr) (n0 c0 : Nat) (x0 : List Ext) (a1 : Option Addr) (n1 c1 : Nat) (x1 : List Ext) (w : World) (xs0 : Exts w a0 n0 c0 x0) (xs1 : Exts w a1 n1 c1 x1) :
    Calls Try.prog 8 #[.agg #[.int .u8 (k0 : Int), .int .i64 l0, .int .i64 s0, .slice a0 n0 c0, .int .i64 d0], .slice a1 n1 c1] w fun e w' => e = .returned (.bool true) ∧ Below w.heap.size w w' := by
  by_cases h : 300 < n1 ∨ (n1 ≤ 300 ∧ 300 < n0)
  · exact spares_awake k0 l0 s0 d0 a0 n0 c0 a1 n1 c1 w (Nat.le_trans xs1.room xs1.max) (Nat.le_trans xs0.room xs0.max) h
  · have h1 : n1 ≤ 300 := by omega
    have h2 : n0 ≤ 300 := by omega
    rcases putInode_or k0 l0 s0 x0 d0 with e | ⟨I, e, lI, gI⟩
    · exact spares_none k0 l0 s0 d0 a0 n0 c0 x0 a1 n1 c1 x1 w h1 h2 xs0 xs1 (.inl e)
    · rcases putNode_or x1 with e2 | ⟨N, e2, lN, gN⟩
      · exact spares_none k0 l0 s0 d0 a0 n0 c0 x0 a1 n1 c1 x1 w h1 h2 xs0 xs1 (.inr e2)
      · exact spares_some k0 l0 s0 d0 a0 n0 c0 x0 a1 n1 c1 x1 w h1 h2 xs0 xs1 I N e lI gI e2 lN gN

/-! ### the row -/
set_option maxRecDepth 100000 in
theorem lifted (os : Os) (started : os.Started) (H : Type) (enc : TypeId × Value → H) :
    ReturnsInHanded {} Try.checked os 8 .any (Rows.superSparesSpec.pre6 enc Try.prog Try.f8 Rows.superSparesRow.domain false) (Rows.superSparesSpec.post enc Try.prog Try.f8 false true false false) := by
  refine returnsInHanded_of_change (C := Try.checked) own started (by kernel_rfl) Try.func8
    (ChangeSpec.witness6 (enc := enc) (C := Try.checked) false ⟨#[], #[.agg #[.int .u8 0, .int .i64 0, .int .i64 0, .slice none 0 0, .int .i64 0], .slice none 0 0], []⟩ 8 (by kernel_rfl) (by kernel_rfl) (by kernel_rfl) (by kernel_rfl)) ?_
  intro W base args ds gs before hval0 hW hcnd _
  have hval : ∀ (j : Nat) t v, Try.f8.params[j]? = some t → args[j]? = some v → Value.okWide Try.prog W .any base t v := hval0
  have hW' := hW
  obtain ⟨p, q, hA0, hV, rfl, hfz, hnd⟩ := hW
  have hA : DataW.TrodAll enc Try.prog W 0 (fun _ => true) true Try.f8.params.toList args.toList ds p := hA0
  rw [Try.params8] at hA hval
  obtain ⟨v0, vs0, d0, ds0, p0, q0, hargs, rfl, rfl, h0, r0⟩ := trodAll_cons hA
  obtain ⟨v1, vs1, d1, ds1, p1, q1, rfl, rfl, rfl, h1, r1⟩ := trodAll_cons r0
  obtain ⟨rfl, rfl, rfl⟩ := trodAll_nil r1
  obtain rfl : args = #[v0, v1] := by cases args; simp_all
  obtain ⟨rfl, rfl⟩ := trodVars_none hV
  obtain ⟨cs0, rfl, _⟩ := okWide_struct Try.underlying32 (hval 0 32 v0 rfl rfl)
  have kk0 := h0
  have lt0 : ∀ x ∈ p0, x.block < W.heap.size := by obtain ⟨m, hm⟩ := kk0; exact DataW.trod_lt m _ _ _ hm
  obtain ⟨k0, l0, s0, d0', a0, n0, c0, x0, hcs0, xs0⟩ : ∃ (k : Nat) (l s d : Int) (a : Option Addr) (n cap : Nat) (es : List Ext), cs0.toList = [.int .u8 (k : Int), .int .i64 l, .int .i64 s, .slice a n cap, .int .i64 d] ∧ Exts W a n cap es := by
    obtain ⟨fuel, hf⟩ := h0
    exact open_inode hf
  obtain rfl : cs0 = #[.int .u8 (k0 : Int), .int .i64 l0, .int .i64 s0, .slice a0 n0 c0, .int .i64 d0'] := Array.toList_inj.1 (by simpa using hcs0)
  obtain ⟨a1, n1, c1, rfl⟩ := okWide_slice Try.underlying30 (hval 1 30 v1 rfl rfl)
  have k1 := h1
  have lt1 : ∀ x ∈ p1, x.block < W.heap.size := by obtain ⟨m, hm⟩ := k1; exact DataW.trod_lt m _ _ _ hm
  obtain ⟨x1, xs1⟩ : ∃ es, Exts W a1 n1 c1 es := by
    obtain ⟨fuel, hf⟩ := h1
    obtain ⟨a', n', c', es, hcs, hx⟩ := open_exts hf
    simp [Value.cells] at hcs
    obtain ⟨rfl, rfl, rfl⟩ := hcs
    exact ⟨es, hx⟩
  clear hA0 hval0
  refine (walk k0 l0 s0 d0' a0 n0 c0 x0 a1 n1 c1 x1 W xs0 xs1).mono fun e W' ⟨he, bel⟩ => ?_
  subst he
  exact ⟨_, rfl, _, _, _, [], _, [], hW', trodAll_mk1 (shut_bool Try.underlying4 _), (trodAll_cons_mk (Below.trod laidOut (by kernel_rfl) (of_decide_eq_true (by kernel_rfl)) kk0 bel lt0) (trodAll_cons_mk (Below.trod laidOut (by kernel_rfl) (of_decide_eq_true (by kernel_rfl)) k1 bel lt1) trodAll_mk0)), rfl, bel.frame _, fun h => by cases h⟩

theorem over : Rows.superSparesRow.holds Try.pinned (OpenSpec.ofChange Rows.superSparesSpec) :=
  OpenClaim.holds_of_wide 8 Try.f8 rfl rfl rfl rfl rfl rfl rfl ⟨rfl, rfl, rfl, rfl, rfl⟩ rfl rfl rfl rfl rfl (by kernel_rfl) Try.func8 (by kernel_rfl)
    (of_decide_eq_true (by kernel_rfl)) (by unfold Func.isWrapper; first | (rw [if_pos (by decide +kernel)]; kernel_rfl) | (rw [if_neg (by decide +kernel)]; exact ⟨rfl, rfl⟩))
    (fun os started H enc _ => lifted os started H enc)

end Go.Proofs.Ytmhplpiglbamcaa.superSpares
namespace Go.Proofs.Ytmhplpiglbamcaa
theorem superSpares_holds : Rows.SuperSparesSaid := superSpares.over
#print axioms superSpares_holds
end Go.Proofs.Ytmhplpiglbamcaa
