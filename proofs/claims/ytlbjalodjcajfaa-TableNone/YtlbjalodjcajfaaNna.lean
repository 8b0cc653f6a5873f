/-
  TableNone: Pick; which list is right, as the law asks.
-/
import Derived.Test.YtlbjalodjcajfaaArg
namespace Go.Proofs.Ytlbjalodjcajfaa
open Go.RowKit Go.Maps
theorem pick_at (w : World) (x n : Nat) (hn : 1 ≤ n) (hn2 : n ≤ 9223372036854775807) : Calls Try.prog 21 #[.int .i64 (x : Int), .int .i64 (n : Int)] w fun r w' => r = .returned (.int .i64 ((x % n : Nat) : Int)) ∧ w' = w := by
  have h1 : (1 : Int) ≤ (n : Int) := by omega
  have h2 : ¬ (n : Int) = 0 := by omega
  have h3 : (x : Int).tmod (n : Int) = ((x % n : Nat) : Int) := by rw [Int.ofNat_tmod]
  have h4 : ¬ (((x % n : Nat) : Int) < 0) := by omega
  have h5 : IntKind.i64.wrap ((x % n : Nat) : Int) = ((x % n : Nat) : Int) := by
    have := Nat.mod_lt x (show 0 < n by omega)
    rw [IntKind.wrap_i64]; omega
  generalize (x % n) = y at *
  go_enter Try.func21, Try.ntmps21
  go_wp2
  go_ret
  simp
def upR (l : List En) (j : Nat) : Bool := (List.range j).all (okAt l)
theorem upR_zero (l : List En) : upR l 0 = true := rfl
theorem upR_succ (l : List En) (j : Nat) : upR l (j + 1) = (upR l j && okAt l j) := by unfold upR; rw [List.range_succ, List.all_append]; simp
theorem okAt_take {l : List En} {n j : Nat} (hj : j < n) : okAt (l.take n) j = okAt l j := by
  unfold okAt
  rw [List.getElem?_take, if_pos hj]
  cases j with
  | zero => rfl
  | succ i => simp only [List.getElem?_take]; rw [if_pos (by omega)]
theorem upR_take {l : List En} {n : Nat} (hn : n ≤ l.length) : Rgt (l.take n) = upR l n := by
  unfold Rgt upR
  rw [List.length_take, Nat.min_eq_left hn]
  rw [Bool.eq_iff_iff, List.all_eq_true, List.all_eq_true]
  constructor
  · intro h i hi
    have := h i hi
    rwa [okAt_take (List.mem_range.1 hi)] at this
  · intro h i hi
    rw [okAt_take (List.mem_range.1 hi)]
    exact h i hi
end Go.Proofs.Ytlbjalodjcajfaa
