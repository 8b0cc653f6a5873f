/-
  Proved: for every super, every inode and all extents, SuperTells answers true: the Puts and Right answer as the document defines, and what is handed in stays. No condition.
-/
import Derived.Test.YtmhplpiglbamcaaRows
import Derived.Test.YtmhplpiglbamcaaTells
import Derived.WalkKit
import Derived.ProofKit
import Derived.OpenShut
import Derived.ChangeOld
import Derived.Below
namespace Go.Proofs.Ytmhplpiglbamcaa.superTells
open Go.ChangeShapes Go.WideShapes Go.ChangeAt Go.RowKit
set_option linter.unusedVariables false

theorem own : ownKnob Try.prog.godebug = none := by kernel_rfl
theorem laidOut : laidOutB Try.prog = true := by kernel_rfl

/-! ### the walk -/
theorem walk (b0 e0 q0 t0 : Int) (k1 : Nat) (l1 s1 d1 : Int) (a1 : Option Addr) (n1 c1 : Nat) (x1 : List Ext) (a2 : Option Addr) (n2 c2 : Nat) (x2 : List Ext) (w : World) (xs1 : Exts w a1 n1 c1 x1) (xs2 : Exts w a2 n2 c2 x2) :
    Calls Try.prog 4 #[.agg #[.int .i64 b0, .int .i64 e0, .int .i64 q0, .int .i64 t0], .agg #[.int .u8 (k1 : Int), .int .i64 l1, .int .i64 s1, .slice a1 n1 c1, .int .i64 d1], .slice a2 n2 c2] w fun e w' => e = .returned (.bool true) ∧ Below w.heap.size w w' := by
  by_cases h : n2 ≤ 600 ∧ n1 ≤ 600
  · exact tells_any b0 e0 q0 t0 k1 l1 s1 d1 a1 n1 c1 x1 a2 n2 c2 x2 w h.1 h.2 xs1.len xs1.wf xs1.rd xs1.nil xs2.len xs2.wf xs2.rd xs2.nil
  · have r1 := xs1.room
    have m1 := xs1.max
    have r2 := xs2.room
    have m2 := xs2.max
    exact tells_long b0 e0 q0 t0 k1 l1 s1 d1 a1 n1 c1 a2 n2 c2 w (by omega) (by omega) (by omega)

/-! ### the row -/
set_option maxRecDepth 100000 in
theorem lifted (os : Os) (started : os.Started) (H : Type) (enc : TypeId × Value → H) :
    ReturnsInHanded {} Try.checked os 4 .any (Rows.superTellsSpec.pre6 enc Try.prog Try.f4 Rows.superTellsRow.domain false) (Rows.superTellsSpec.post enc Try.prog Try.f4 false true false false) := by
  refine returnsInHanded_of_change (C := Try.checked) own started (by kernel_rfl) Try.func4
    (ChangeSpec.witness6 (enc := enc) (C := Try.checked) false ⟨#[], #[.agg #[.int .i64 0, .int .i64 0, .int .i64 0, .int .i64 0], .agg #[.int .u8 0, .int .i64 0, .int .i64 0, .slice none 0 0, .int .i64 0], .slice none 0 0], []⟩ 8 (by kernel_rfl) (by kernel_rfl) (by kernel_rfl) (by kernel_rfl)) ?_
  intro W base args ds gs before hval0 hW hcnd _
  have hval : ∀ (j : Nat) t v, Try.f4.params[j]? = some t → args[j]? = some v → Value.okWide Try.prog W .any base t v := hval0
  have hW' := hW
  obtain ⟨p, q, hA0, hV, rfl, hfz, hnd⟩ := hW
  have hA : DataW.TrodAll enc Try.prog W 0 (fun _ => true) true Try.f4.params.toList args.toList ds p := hA0
  rw [Try.params4] at hA hval
  obtain ⟨v0, vs0, d0, ds0, p0, q0, hargs, rfl, rfl, h0, r0⟩ := trodAll_cons hA
  obtain ⟨v1, vs1, d1, ds1, p1, q1, rfl, rfl, rfl, h1, r1⟩ := trodAll_cons r0
  obtain ⟨v2, vs2, d2, ds2, p2, q2, rfl, rfl, rfl, h2, r2⟩ := trodAll_cons r1
  obtain ⟨rfl, rfl, rfl⟩ := trodAll_nil r2
  obtain rfl : args = #[v0, v1, v2] := by cases args; simp_all
  obtain ⟨rfl, rfl⟩ := trodVars_none hV
  obtain ⟨cs0, rfl, _⟩ := okWide_struct Try.underlying27 (hval 0 27 v0 rfl rfl)
  have k0 := h0
  have lt0 : ∀ x ∈ p0, x.block < W.heap.size := by obtain ⟨m, hm⟩ := k0; exact DataW.trod_lt m _ _ _ hm
  obtain ⟨b0, e0, q0, t0, hcs0⟩ : ∃ b e q t : Int, cs0.toList = [.int .i64 b, .int .i64 e, .int .i64 q, .int .i64 t] := by
    obtain ⟨fuel, hf⟩ := h0
    exact open_super hf
  obtain rfl : cs0 = #[.int .i64 b0, .int .i64 e0, .int .i64 q0, .int .i64 t0] := Array.toList_inj.1 (by simpa using hcs0)
  obtain ⟨cs1, rfl, _⟩ := okWide_struct Try.underlying32 (hval 1 32 v1 rfl rfl)
  have kk1 := h1
  have lt1 : ∀ x ∈ p1, x.block < W.heap.size := by obtain ⟨m, hm⟩ := kk1; exact DataW.trod_lt m _ _ _ hm
  obtain ⟨k1, l1, s1, d1', a1, n1, c1, x1, hcs1, xs1⟩ : ∃ (k : Nat) (l s d : Int) (a : Option Addr) (n cap : Nat) (es : List Ext), cs1.toList = [.int .u8 (k : Int), .int .i64 l, .int .i64 s, .slice a n cap, .int .i64 d] ∧ Exts W a n cap es := by
    obtain ⟨fuel, hf⟩ := h1
    exact open_inode hf
  obtain rfl : cs1 = #[.int .u8 (k1 : Int), .int .i64 l1, .int .i64 s1, .slice a1 n1 c1, .int .i64 d1'] := Array.toList_inj.1 (by simpa using hcs1)
  obtain ⟨a2, n2, c2, rfl⟩ := okWide_slice Try.underlying30 (hval 2 30 v2 rfl rfl)
  have k2 := h2
  have lt2 : ∀ x ∈ p2, x.block < W.heap.size := by obtain ⟨m, hm⟩ := k2; exact DataW.trod_lt m _ _ _ hm
  obtain ⟨x2, xs2⟩ : ∃ es, Exts W a2 n2 c2 es := by
    obtain ⟨fuel, hf⟩ := h2
    obtain ⟨a', n', c', es, hcs, hx⟩ := open_exts hf
    simp [Value.cells] at hcs
    obtain ⟨rfl, rfl, rfl⟩ := hcs
    exact ⟨es, hx⟩
  clear hA0 hval0
  refine (walk b0 e0 q0 t0 k1 l1 s1 d1' a1 n1 c1 x1 a2 n2 c2 x2 W xs1 xs2).mono fun e W' ⟨he, bel⟩ => ?_
  subst he
  exact ⟨_, rfl, _, _, _, [], _, [], hW', trodAll_mk1 (shut_bool Try.underlying4 _), (trodAll_cons_mk (Below.trod laidOut (by kernel_rfl) (of_decide_eq_true (by kernel_rfl)) k0 bel lt0) (trodAll_cons_mk (Below.trod laidOut (by kernel_rfl) (of_decide_eq_true (by kernel_rfl)) kk1 bel lt1) (trodAll_cons_mk (Below.trod laidOut (by kernel_rfl) (of_decide_eq_true (by kernel_rfl)) k2 bel lt2) trodAll_mk0))), rfl, bel.frame _, fun h => by cases h⟩

theorem over : Rows.superTellsRow.holds Try.pinned (OpenSpec.ofChange Rows.superTellsSpec) :=
  OpenClaim.holds_of_wide 4 Try.f4 rfl rfl rfl rfl rfl rfl rfl ⟨rfl, rfl, rfl, rfl, rfl⟩ rfl rfl rfl rfl rfl (by kernel_rfl) Try.func4 (by kernel_rfl)
    (of_decide_eq_true (by kernel_rfl)) (by unfold Func.isWrapper; first | (rw [if_pos (by decide +kernel)]; kernel_rfl) | (rw [if_neg (by decide +kernel)]; exact ⟨rfl, rfl⟩))
    (fun os started H enc _ => lifted os started H enc)

end Go.Proofs.Ytmhplpiglbamcaa.superTells
namespace Go.Proofs.Ytmhplpiglbamcaa
theorem superTells_holds : Rows.SuperTellsSaid := superTells.over
#print axioms superTells_holds
end Go.Proofs.Ytmhplpiglbamcaa
