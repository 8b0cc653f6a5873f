/-
  The law's own 'does': what is no call; Read.
-/
import Derived.Test.YtagnmmapnpcijaaDoes
namespace Go.Proofs.Ytagnmmapnpcijaa
open Go.RowKit

variable {K : List (Nat × Obj)}

set_option maxRecDepth 100000 in
theorem does_none {w0 w : World} {g : Nat} {D : DS} {v : Value} (h : Both K w0 w g D v) (k n sz b : Int) (ak : Option Addr) (nk ck : Nat) (m : Int) (hk : ¬ (1 ≤ k ∧ k ≤ 6)) :
    Calls Try.prog 28 #[.pointer (some ⟨g, 0, none⟩), v, .agg #[.int .i64 k, .int .i64 n, .int .i64 sz, .int .i64 b, .slice ak nk ck, .int .u8 m]] w fun r w' => ∃ v', r = .returned (.tuple #[v', .bool true]) ∧ Both K w0 w' g D v' := by
  obtain ⟨F, a1, a2, n1, c1, n2, c2, rfl, hd, f0, B, R, kk⟩ := h
  obtain ⟨s0, B0⟩ := sit_start hd f0 B kk #[.int .i64 k, .int .i64 n, .int .i64 sz, .int .i64 b, .slice ak nk ck, .int .u8 m] (refA a1 a2 n1 c1 n2 c2 D) (refA a1 a2 n1 c1 n2 c2 D)
  have R0 := R.below B0
  have k1 : (k == 1) = false := by simp; omega
  have k2 : (k == 2) = false := by simp; omega
  have k3 : (k == 3) = false := by simp; omega
  have k4 : (k == 4) = false := by simp; omega
  have k5 : (k == 5) = false := by simp; omega
  have k6 : (k == 6) = false := by simp; omega
  have S4 : Hid _ := s0
  have HR4 : Hid _ := R0
  clear kk hd f0 B R B0 s0 R0 hk
  unfold refA
  go_enter Try.func28, Try.ntmps28
  go_wp2
  refine bodyPost_ret (v := .tuple #[.agg (refA a1 a2 n1 c1 n2 c2 D), .bool true]) (hd := rfl) (hR := ⟨_, rfl, F, a1, a2, n1, c1, n2, c2, rfl, S4.out.d, S4.out.f0, S4.out.bel, HR4.out, S4.out.kk⟩) (hr := ?_)
  simp [results, Try.results28, go_sem, refA]
end Go.Proofs.Ytagnmmapnpcijaa
