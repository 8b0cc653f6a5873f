/-
  Whatever the blocks, the layout, the groups, the images and the super are, Choose, Home and Do answer as the document defines, and the disk is as it says: for every input of bulk at most 1048576.
-/
import Derived.Test.YtdkaacjeogifdaaGreatRows
import Derived.Test.YtdkaacjeogifdaaGreatGReplayTells
import Derived.WalkKit
import Derived.ProofKit
import Derived.OpenShut
import Derived.ChangeOld
import Derived.Below
import Derived.JoinedCond
namespace Go.Proofs.YtdkaacjeogifdaaGreat.replayTells
open Go.ChangeShapes Go.WideShapes Go.ChangeAt Go.RowKit
set_option linter.unusedVariables false

theorem own : ownKnob Tryz.prog.godebug = none := by kernel_rfl
theorem laidOut : laidOutB Tryz.prog = true := by kernel_rfl
theorem walk (w : World) (a0 a1 ga ia : Option Addr) (n0 c0 n1 c1 gn gc im ic : Nat) (l0 l1 l2 l3 l4 l5 l6 b e q t slot arm : Int) (X0 X1 : List UInt8) (G : List H.GrD) (L : List H.ImD)
    (hl0 : X0.length = n0) (hr0 : Rc.Rd w a0 X0) (hc0 : n0 ≤ c0) (hm0 : c0 ≤ 9223372036854775807) (hl1 : X1.length = n1) (hr1 : Rc.Rd w a1 X1) (hc1 : n1 ≤ c1) (hm1 : c1 ≤ 9223372036854775807) (hG : H.GrsA w ga gn G) (hI : H.ImsA w ia im ic L) (harm : arm ≤ 9223372036854775807) :
    Calls Tryz.prog 3 #[.slice a0 n0 c0, .slice a1 n1 c1, .agg #[.int .i64 l0, .int .i64 l1, .int .i64 l2, .int .i64 l3, .int .i64 l4, .int .i64 l5, .int .i64 l6], .slice ga gn gc, .slice ia im ic, .agg #[.int .i64 b, .int .i64 e, .int .i64 q, .int .i64 t], .int .i64 slot, .int .i64 arm] w fun r w' => r = .returned (.bool true) ∧ Below w.heap.size w w' := by
  by_cases h : n0 ≤ 5000 ∧ n1 ≤ 5000 ∧ gn ≤ 20 ∧ im ≤ 40
  · exact H.tells_walk w a0 a1 ga ia n0 c0 n1 c1 gn gc im ic l0 l1 l2 l3 l4 l5 l6 b e q t slot arm X0 X1 G L hl0 hr0 hc0 hm0 hl1 hr1 hc1 hm1 hG hI harm h.1 h.2.1 h.2.2.1 h.2.2.2
  · exact H.tells_big w a0 a1 ga ia n0 c0 n1 c1 gn gc im ic l0 l1 l2 l3 l4 l5 l6 b e q t slot arm (by omega)

set_option maxRecDepth 100000 in
theorem lifted (os : Os) (started : os.Started) (H : Type) (enc : TypeId × Value → H) (F : Stop.Interp) :
    ReturnsInHanded {} Tryz.checked os 3 .any ((Rows.OpenSpec.upto Rows.replayTellsSpec).pre6 enc Tryz.prog Tryz.f3 Rows.replayTellsUptoRow.domain false) (((Rows.OpenSpec.upto Rows.replayTellsSpec).at F).post enc Tryz.prog Tryz.f3 false true false false) := by
  refine returnsInHanded_of_cond (C := Tryz.checked) (s := Rows.OpenSpec.upto Rows.replayTellsSpec) (k := Rows.uptoSmall) rfl own started (by kernel_rfl) Tryz.func3
    (OpenSpec.witness (enc := enc) (C := Tryz.checked) (s := Rows.OpenSpec.upto Rows.replayTellsSpec) (k := Rows.uptoSmall) rfl false ⟨#[], #[.slice none 0 0, .slice none 0 0, .agg #[.int .i64 0, .int .i64 0, .int .i64 0, .int .i64 0, .int .i64 0, .int .i64 0, .int .i64 0], .slice none 0 0, .slice none 0 0, .agg #[.int .i64 0, .int .i64 0, .int .i64 0, .int .i64 0], .int .i64 0, .int .i64 0], []⟩ 8 (by kernel_rfl) (by kernel_rfl) (by kernel_rfl)
      (x := ([.nil, .nil, .agg [.lit (.int .i64 0), .lit (.int .i64 0), .lit (.int .i64 0), .lit (.int .i64 0), .lit (.int .i64 0), .lit (.int .i64 0), .lit (.int .i64 0)], .nil, .nil, .agg [.lit (.int .i64 0), .lit (.int .i64 0), .lit (.int .i64 0), .lit (.int .i64 0)], .lit (.int .i64 0), .lit (.int .i64 0)], [], [])) (by kernel_rfl) rfl (by kernel_rfl)) ?_
  intro W base args ds gs before hval0 hW _ hk _
  have hval : ∀ (j : Nat) t v, Tryz.f3.params[j]? = some t → args[j]? = some v → Value.okWide Tryz.prog W .any base t v := hval0
  have hW' := hW
  obtain ⟨p, q, hA0, hV, rfl, hfz, hnd⟩ := hW
  have hA : DataW.TrodAll enc Tryz.prog W 0 (fun _ => true) true Tryz.f3.params.toList args.toList ds p := hA0
  rw [Tryz.params3] at hA hval
  obtain ⟨v0, vs0, d0, ds0, p0, q0, hargs, rfl, rfl, h0, r0⟩ := trodAll_cons hA
  obtain ⟨v1, vs1, d1, ds1, p1, q1, rfl, rfl, rfl, h1, r1⟩ := trodAll_cons r0
  obtain ⟨v2, vs2, d2, ds2, p2, q2, rfl, rfl, rfl, h2, r2⟩ := trodAll_cons r1
  obtain ⟨v3, vs3, d3, ds3, p3, q3, rfl, rfl, rfl, h3, r3⟩ := trodAll_cons r2
  obtain ⟨v4, vs4, d4, ds4, p4, q4, rfl, rfl, rfl, h4, r4⟩ := trodAll_cons r3
  obtain ⟨v5, vs5, d5, ds5, p5, q5, rfl, rfl, rfl, h5, r5⟩ := trodAll_cons r4
  obtain ⟨v6, vs6, d6, ds6, p6, q6, rfl, rfl, rfl, h6, r6⟩ := trodAll_cons r5
  obtain ⟨v7, vs7, d7, ds7, p7, q7, rfl, rfl, rfl, h7, r7⟩ := trodAll_cons r6
  obtain ⟨rfl, rfl, rfl⟩ := trodAll_nil r7
  obtain rfl : args = #[v0, v1, v2, v3, v4, v5, v6, v7] := by cases args; simp_all
  obtain ⟨rfl, rfl⟩ := trodVars_none hV
  obtain ⟨a0, n0, c0, rfl⟩ := okWide_slice Tryz.underlying22 (hval 0 22 v0 rfl rfl)
  have k0 := h0
  have lt0 : ∀ x ∈ p0, x.block < W.heap.size := by obtain ⟨m, hm⟩ := k0; exact DataW.trod_lt m _ _ _ hm
  obtain ⟨x0, hl0, hr0, hc0, hm0⟩ : ∃ xs : List UInt8, xs.length = n0 ∧ Rc.Rd W a0 xs ∧ n0 ≤ c0 ∧ c0 ≤ 9223372036854775807 := by
    obtain ⟨fuel, hf⟩ := h0
    obtain ⟨a', n', c', xs, hcs, hx1, hx2, hx3, hx4, _⟩ := Go.Proofs.YtdkaacjeogifdaaGreat.H.open_bytes hf
    simp [Value.cells] at hcs
    obtain ⟨rfl, rfl, rfl⟩ := hcs
    exact ⟨xs, hx1, hx2, hx3, hx4⟩
  obtain ⟨a1, n1, c1, rfl⟩ := okWide_slice Tryz.underlying22 (hval 1 22 v1 rfl rfl)
  have k1 := h1
  have lt1 : ∀ x ∈ p1, x.block < W.heap.size := by obtain ⟨m, hm⟩ := k1; exact DataW.trod_lt m _ _ _ hm
  obtain ⟨x1, hl1, hr1, hc1, hm1⟩ : ∃ xs : List UInt8, xs.length = n1 ∧ Rc.Rd W a1 xs ∧ n1 ≤ c1 ∧ c1 ≤ 9223372036854775807 := by
    obtain ⟨fuel, hf⟩ := h1
    obtain ⟨a', n', c', xs, hcs, hx1, hx2, hx3, hx4, _⟩ := Go.Proofs.YtdkaacjeogifdaaGreat.H.open_bytes hf
    simp [Value.cells] at hcs
    obtain ⟨rfl, rfl, rfl⟩ := hcs
    exact ⟨xs, hx1, hx2, hx3, hx4⟩
  obtain ⟨cs2, rfl, _⟩ := okWide_struct Tryz.underlying24 (hval 2 24 v2 rfl rfl)
  have k2 := h2
  have lt2 : ∀ x ∈ p2, x.block < W.heap.size := by obtain ⟨m, hm⟩ := k2; exact DataW.trod_lt m _ _ _ hm
  obtain ⟨l0, l1, l2, l3, l4, l5, l6, hcs2⟩ : ∃ a b c d e f g : Int, cs2.toList = [.int .i64 a, .int .i64 b, .int .i64 c, .int .i64 d, .int .i64 e, .int .i64 f, .int .i64 g] := by
    obtain ⟨fuel, hf⟩ := h2
    exact Go.Proofs.YtdkaacjeogifdaaGreat.H.open_layout hf
  obtain rfl : cs2 = #[.int .i64 l0, .int .i64 l1, .int .i64 l2, .int .i64 l3, .int .i64 l4, .int .i64 l5, .int .i64 l6] := Array.toList_inj.1 (by simpa using hcs2)
  obtain ⟨a3, n3, c3, rfl⟩ := okWide_slice Tryz.underlying25 (hval 3 25 v3 rfl rfl)
  have k3 := h3
  have lt3 : ∀ x ∈ p3, x.block < W.heap.size := by obtain ⟨m, hm⟩ := k3; exact DataW.trod_lt m _ _ _ hm
  have hb3 : Rows.uptoBulk d3 ≤ 1048576 := Nat.le_trans (Go.Proofs.YtdkaacjeogifdaaGreat.H.bulk_part (List.mem_append.2 (.inl (by simp)))) (of_decide_eq_true hk)
  obtain ⟨G, hG⟩ : ∃ G, Go.Proofs.YtdkaacjeogifdaaGreat.H.GrsA W a3 n3 G := by
    obtain ⟨fuel, hf⟩ := h3
    obtain ⟨a', n', c', xs, hcs, hx, _⟩ := Go.Proofs.YtdkaacjeogifdaaGreat.H.open_groups hf hb3
    simp [Value.cells] at hcs
    obtain ⟨rfl, rfl, rfl⟩ := hcs
    exact ⟨xs, hx⟩
  obtain ⟨a4, n4, c4, rfl⟩ := okWide_slice Tryz.underlying26 (hval 4 26 v4 rfl rfl)
  have k4 := h4
  have lt4 : ∀ x ∈ p4, x.block < W.heap.size := by obtain ⟨m, hm⟩ := k4; exact DataW.trod_lt m _ _ _ hm
  have hb4 : Rows.uptoBulk d4 ≤ 1048576 := Nat.le_trans (Go.Proofs.YtdkaacjeogifdaaGreat.H.bulk_part (List.mem_append.2 (.inl (by simp)))) (of_decide_eq_true hk)
  obtain ⟨L, hL⟩ : ∃ L, Go.Proofs.YtdkaacjeogifdaaGreat.H.ImsA W a4 n4 c4 L := by
    obtain ⟨fuel, hf⟩ := h4
    obtain ⟨a', n', c', xs, hcs, hx⟩ := Go.Proofs.YtdkaacjeogifdaaGreat.H.open_ims hf hb4
    simp [Value.cells] at hcs
    obtain ⟨rfl, rfl, rfl⟩ := hcs
    exact ⟨xs, hx⟩
  obtain ⟨cs5, rfl, _⟩ := okWide_struct Tryz.underlying28 (hval 5 28 v5 rfl rfl)
  have k5 := h5
  have lt5 : ∀ x ∈ p5, x.block < W.heap.size := by obtain ⟨m, hm⟩ := k5; exact DataW.trod_lt m _ _ _ hm
  obtain ⟨b5, e5, q5', t5, hcs5⟩ : ∃ b e q t : Int, cs5.toList = [.int .i64 b, .int .i64 e, .int .i64 q, .int .i64 t] := by
    obtain ⟨fuel, hf⟩ := h5
    exact Go.Proofs.YtdkaacjeogifdaaGreat.H.open_super hf
  obtain rfl : cs5 = #[.int .i64 b5, .int .i64 e5, .int .i64 q5', .int .i64 t5] := Array.toList_inj.1 (by simpa using hcs5)
  obtain ⟨z6, rfl, rfl, rfl, wf6⟩ := open_int Tryz.underlying3 (hval 6 3 v6 rfl rfl) h6
  obtain ⟨z7, rfl, rfl, rfl, wf7⟩ := open_int Tryz.underlying3 (hval 7 3 v7 rfl rfl) h7
  have harm : z7 ≤ 9223372036854775807 := by
    have := wf7
    simp [Lit.wf, IntKind.min, IntKind.max, IntKind.bits, IntKind.signed] at this
    omega
  clear hA0 hval0
  refine (walk W a0 a1 a3 a4 n0 c0 n1 c1 n3 c3 n4 c4 l0 l1 l2 l3 l4 l5 l6 b5 e5 q5' t5 z6 z7 x0 x1 G L hl0 hr0 hc0 hm0 hl1 hr1 hc1 hm1 hG hL harm).mono fun e W' ⟨he, bel⟩ => ?_
  subst he
  exact ⟨_, rfl, _, _, _, [], _, [], hW', trodAll_mk1 (shut_bool Tryz.underlying4 _), (trodAll_cons_mk (Below.trod laidOut (by kernel_rfl) (of_decide_eq_true (by kernel_rfl)) k0 bel lt0) (trodAll_cons_mk (Below.trod laidOut (by kernel_rfl) (of_decide_eq_true (by kernel_rfl)) k1 bel lt1) (trodAll_cons_mk (Below.trod laidOut (by kernel_rfl) (of_decide_eq_true (by kernel_rfl)) k2 bel lt2) (trodAll_cons_mk (Below.trod laidOut (by kernel_rfl) (of_decide_eq_true (by kernel_rfl)) k3 bel lt3) (trodAll_cons_mk (Below.trod laidOut (by kernel_rfl) (of_decide_eq_true (by kernel_rfl)) k4 bel lt4) (trodAll_cons_mk (Below.trod laidOut (by kernel_rfl) (of_decide_eq_true (by kernel_rfl)) k5 bel lt5) (trodAll_cons_mk (shut_int Tryz.underlying3 wf6) (trodAll_cons_mk (shut_int Tryz.underlying3 wf7) trodAll_mk0)))))))), rfl, bel.frame _, fun h => by cases h⟩

theorem over : Rows.replayTellsUptoRow.holds Tryz.pinned (Rows.OpenSpec.upto Rows.replayTellsSpec) :=
  OpenClaim.holds_of_cond 3 Tryz.f3 rfl rfl rfl rfl rfl rfl rfl ⟨rfl, rfl, rfl, rfl, rfl⟩ rfl rfl rfl rfl rfl (by kernel_rfl) Tryz.func3 (by kernel_rfl)
    (of_decide_eq_true (by kernel_rfl)) (by unfold Func.isWrapper; first | (rw [if_pos (by decide +kernel)]; kernel_rfl) | (rw [if_neg (by decide +kernel)]; exact ⟨rfl, rfl⟩))
    (fun os started H enc _ F => lifted os started H enc F)

end Go.Proofs.YtdkaacjeogifdaaGreat.replayTells
namespace Go.Proofs.YtdkaacjeogifdaaGreat
theorem replayTellsUpto_holds : Rows.ReplayTellsUptoSaid := replayTells.over
#print axioms replayTellsUpto_holds
end Go.Proofs.YtdkaacjeogifdaaGreat
