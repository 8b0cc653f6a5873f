/-
  The library's walk through a list of writes, from its end.
-/
import Derived.RangeFuncNested
import Derived.RangeFuncBound
import Derived.RangeFuncCalls
import Derived.RangeFuncLeaves
import Derived.Shelf.Abstract
import Derived.Shelf.RegionOpen
import Derived.WalkKit
import Derived.OwnWalkIn
import Derived.TacticsInMore
import Derived.LoopNIn
import Derived.LoopIn
import Derived.Test.YtagnmmapnpcijaaAll
namespace Go.Proofs.Ytagnmmapnpcijaa
open Go.RowKit Go.Shelf
attribute [local go_sem] Oper.semAt_some

abbrev Wr := Nat × (Nat × Nat × Nat)
def encW (x : Wr) : Array Value := #[.int .i64 (x.1 : Int), .agg #[.int .i64 (x.2.1 : Int), .slice (some ⟨x.2.2.1, 0, none⟩) 4096 x.2.2.2]]
/-- what comes in round j -/
def comes (ps : List (Nat × Nat × Nat)) (j : Nat) : Wr := (ps.length - 1 - j, ps[ps.length - 1 - j]?.getD (0, 0, 0))
/-- what has come behind k rounds -/
def downs (ps : List (Nat × Nat × Nat)) (k : Nat) : List Wr := (List.range k).map (comes ps)
theorem downs_succ (ps : List (Nat × Nat × Nat)) (k : Nat) : downs ps (k + 1) = downs ps k ++ [comes ps k] := by simp [downs, List.range_succ]
theorem downs_length (ps : List (Nat × Nat × Nat)) (k : Nat) : (downs ps k).length = k := by simp [downs]

set_option maxRecDepth 100000 in
set_option maxHeartbeats 2000000 in
theorem back1_in (n : Nat) (hn : 1 ≤ n) (l Bs n₀ b len cap : Nat) (ps : List (Nat × Nat × Nat)) (hlen : ps.length = len) (hmax : len ≤ 1000000) (hb : b < n₀) (J Jx : List Wr → World → Prop)
    (hY : ∀ pre x W, J pre W → pre.length < len → YieldAt Fence.wide (n - 1) Try.prog l (encW x) W fun e W' =>
      (e = .returned (.bool true) ∧ J (pre ++ [x]) W' ∧ Below n₀ W W') ∨ (e = .returned (.bool false) ∧ Jx (pre ++ [x]) W'))
    (W : World) (hBs : W.cell? ⟨Bs, 0, none⟩ = some (.slice (some ⟨b, 0, none⟩) len cap)) (hBn : Bs < n₀)
    (hc : ∀ j (h : j < ps.length), W.cell? ⟨b, 0 + j * 2, none⟩ = some (.int .i64 (ps[j].1 : Int)) ∧ W.cell? ⟨b, 0 + j * 2 + 1, none⟩ = some (.slice (some ⟨ps[j].2.1, 0, none⟩) 4096 ps[j].2.2)) (h0 : J [] W) :
    CallsIn Fence.wide n Try.prog 61 #[.func (.yield l) #[] #[], .pointer (some ⟨Bs, 0, none⟩)] W fun e W' => (∃ v, e = .returned v) ∧
      ((∃ ys, ys = downs ps len ∧ J ys W') ∨ (∃ pre, (∃ k, k ≤ len ∧ pre = downs ps k) ∧ Jx pre W')) := by
  have Hlen : Hid _ := hlen
  have Hc : Hid _ := hc
  clear hlen hc
  refine callsIn_of_wp Try.func61 rfl trivial ?_ rfl
  simp only [Try.ntmps61, List.size_toArray, List.length_cons, List.length_nil, Nat.reduceAdd, Nat.reduceSub, Array.replicate_succ, Array.replicate_zero, List.push_toArray, List.append_toArray, List.nil_append, List.cons_append]
  gi_wp2
  gi_loopw [3] (fun i wr => ∃ k : Nat, k ≤ len ∧ i = .int .i64 ((len : Int) - 1 - (k : Int)) ∧ J (downs ps k) wr ∧ Below n₀ W wr)
    (fun i _ => (intOf i + 1).toNat)
  case atStart => exact ⟨0, Nat.zero_le _, by simp, h0, Below.refl _ _⟩
  case round =>
    obtain ⟨k, hk, rfl, hJs, hnx⟩ := hrel
    have hBs' := (hnx.cell (p := ⟨Bs, 0, none⟩) hBn).trans hBs
    by_cases hlt : k < len
    · obtain ⟨j, hj⟩ : ∃ j : Nat, j = len - 1 - k := ⟨_, rfl⟩
      have hji : (len : Int) - 1 - (k : Int) = (j : Int) := by omega
      have hjl : j < ps.length := by rw [Hlen.out]; omega
      obtain ⟨a0, a1⟩ := Hc.out j hjl
      have hcm : comes ps k = (j, ps[j]) := by
        unfold comes
        rw [Hlen.out, ← hj, List.getElem?_eq_getElem hjl]
        rfl
      obtain ⟨fn, tmps, assign, body, hy, hR⟩ := hY _ (comes ps k) wr hJs (by rw [downs_length]; exact hlt)
      rw [hcm] at hy
      dsimp only [encW] at hy
      have b0 := (hnx.cell (p := ⟨b, 0 + j * 2, none⟩) hb).trans a0
      have b1 := (hnx.cell (p := ⟨b, 0 + j * 2 + 1, none⟩) hb).trans a1
      simp only [Nat.zero_add] at b0 b1
      have hjn : (j : Int) < len := by omega
      rw [hji]
      generalize (ps[j]'hjl) = p at hy b0 b1 hcm
      obtain ⟨pb, pg, pc⟩ := p
      dsimp only at hy b0 b1
      have Hcm : Hid _ := hcm
      have Hji : Hid _ := hji
      have Hj : Hid _ := hj
      clear a0 a1 hcm hji hj
      gi_wp2
      refine hR.mono ?_
      rintro e W3 (⟨rfl, hJ3, hk3⟩ | ⟨rfl, hJx3⟩)
      · gi_wp2
        go_roundw
        case rel => exact ⟨k + 1, by omega, by congr 1; have := Hji.out; omega, by rw [downs_succ]; exact hJ3, hnx.trans hk3⟩
        case measure => simp [intOf]
      · gi_wp2
        refine bodyPost_ret (results_none rfl _ _ _) rfl ?_
        exact ⟨⟨_, rfl⟩, .inr ⟨_, ⟨k + 1, by omega, (downs_succ _ _).symm⟩, hJx3⟩⟩
    · obtain rfl : k = len := by omega
      have e1 : (k : Int) - 1 - (k : Int) = -1 := by omega
      rw [e1]
      gi_wp2
      go_end0
      exact ⟨⟨_, rfl⟩, .inl ⟨_, rfl, hJs⟩⟩

set_option maxRecDepth 100000 in
set_option maxHeartbeats 1000000 in
/-- .. of no writes: no round. -/
theorem back1_nil_in (n : Nat) (l Bs cap : Nat) (a : Option Addr) (J : List Wr → World → Prop) (W : World) (hBs : W.cell? ⟨Bs, 0, none⟩ = some (.slice a 0 cap)) (h0 : J [] W) :
    CallsIn Fence.wide n Try.prog 61 #[.func (.yield l) #[] #[], .pointer (some ⟨Bs, 0, none⟩)] W fun e W' => (∃ v, e = .returned v) ∧ J [] W' := by
  refine callsIn_of_wp Try.func61 rfl trivial ?_ rfl
  simp only [Try.ntmps61, List.size_toArray, List.length_cons, List.length_nil, Nat.reduceAdd, Nat.reduceSub, Array.replicate_succ, Array.replicate_zero, List.push_toArray, List.append_toArray, List.nil_append, List.cons_append]
  gi_wp2
  gi_loopw [3] (fun i wr => i = .int .i64 (-1) ∧ J [] wr) (fun _ _ => 0)
  case atStart => exact ⟨rfl, h0⟩
  case round =>
    obtain ⟨rfl, hJs⟩ := hrel
    gi_wp2
    go_end0
    exact ⟨⟨_, rfl⟩, hJs⟩

set_option maxHeartbeats 1000000 in
/-- slices.Backward: the list is boxed; the function captures the box. -/
theorem back_in (n : Nat) (a : Option Addr) (len cap : Nat) (w : World) :
    CallsIn Fence.wide n Try.prog 58 #[.slice a len cap] w fun e w' => e = .returned (.func (.func 61) #[] #[.pointer (some ⟨w.heap.size, 0, none⟩)]) ∧ w' = w.alloc (.cells #[.slice a len cap] 63) := by
  refine callsIn_of_wp Try.func58 rfl trivial ?_ rfl
  simp only [Try.ntmps58, List.size_toArray, List.length_cons, List.length_nil, Nat.reduceAdd, Nat.reduceSub, Array.replicate_succ, Array.replicate_zero, List.push_toArray, List.append_toArray, List.nil_append, List.cons_append]
  gi_wp2
  go_ret
  exact ⟨rfl, rfl⟩

/-- The writes ps lie where v says, below n₀. -/
def Wrs (n₀ : Nat) (w : World) (v : Value) (ps : List (Nat × Nat × Nat)) : Prop :=
  (∃ a cap, v = .slice a 0 cap ∧ ps = []) ∨ ∃ b cap, v = .slice (some ⟨b, 0, none⟩) ps.length cap ∧ b < n₀ ∧ ∀ j (h : j < ps.length), w.cell? ⟨b, 0 + j * 2, none⟩ = some (.int .i64 (ps[j].1 : Int)) ∧ w.cell? ⟨b, 0 + j * 2 + 1, none⟩ = some (.slice (some ⟨ps[j].2.1, 0, none⟩) 4096 ps[j].2.2)
theorem Wrs.below {n₀ : Nat} {A B : World} {v : Value} {ps : List (Nat × Nat × Nat)} (hb : Below n₀ A B) (h : Wrs n₀ A v ps) : Wrs n₀ B v ps := by
  rcases h with h | ⟨b, cap, hv, hlt, hc⟩
  · exact .inl h
  · refine .inr ⟨b, cap, hv, hlt, fun j hj => ?_⟩
    obtain ⟨h0, h1⟩ := hc j hj
    exact ⟨(hb.cell (p := ⟨b, 0 + j * 2, none⟩) hlt).trans h0, (hb.cell (p := ⟨b, 0 + j * 2 + 1, none⟩) hlt).trans h1⟩

theorem back_stops (n : Nat) (hn : 1 ≤ n) (Bs n₀ : Nat) (v : Value) (ps : List (Nat × Nat × Nat)) (hmax : ps.length ≤ 1000000) (w : World) (hBs : Bs < n₀) (hn₀ : n₀ ≤ w.heap.size) (hc : w.cell? ⟨Bs, 0, none⟩ = some v) (hI : Wrs n₀ w v ps) :
    SeqStopsK Fence.wide n Try.prog 61 #[.pointer (some ⟨Bs, 0, none⟩)] encW (Below n₀) (fun ys => ys = downs ps ps.length) (fun pre => ∃ k, k ≤ ps.length ∧ pre = downs ps k) ps.length w := fun l J Jx W hW _ _ hY h0 => by
  have hc' := (hW.cell (p := ⟨Bs, 0, none⟩) (Nat.lt_of_lt_of_le hBs hn₀)).trans hc
  rcases hI.below (hW.mono hn₀) with ⟨a, cap, rfl, rfl⟩ | ⟨b, cap, rfl, hb, hcs⟩
  · exact (back1_nil_in n l Bs cap a J W hc' h0).mono fun e W' ⟨he, hj⟩ => ⟨he, .inl ⟨_, rfl, hj⟩⟩
  · exact back1_in n hn l Bs n₀ b ps.length cap ps rfl hmax hb J Jx hY W hc' hBs hcs h0
end Go.Proofs.Ytagnmmapnpcijaa
