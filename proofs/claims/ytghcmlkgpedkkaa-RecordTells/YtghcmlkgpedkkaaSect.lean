/-
  The sectors of a block, handed on one by one.
-/
import Derived.RangeFuncNested
import Derived.RangeFuncBound
import Derived.RangeFuncCalls
import Derived.RangeFuncLeaves
import Derived.Shelf.Abstract
import Derived.Shelf.RegionOpen
import Derived.WalkKit
import Derived.OwnWalkIn
import Derived.TacticsInMore
import Derived.LoopNIn
import Derived.LoopIn
import Derived.Test.YtghcmlkgpedkkaaMem
namespace Go.Proofs.Ytghcmlkgpedkkaa
open Go.RowKit Go.Shelf
attribute [local go_sem] Oper.semAt_some

/-- what comes in round x: a sector with no room behind it -/
def encS (g o : Nat) (x : Fin 8) : Array Value := #[.slice (some ⟨g, o + x.val * 512, none⟩) 512 512]
/-- the first k sectors -/
def firsts (k : Nat) : List (Fin 8) := (List.finRange 8).take k
theorem firsts_succ (k : Nat) (h : k < 8) : firsts (k + 1) = firsts k ++ [⟨k, h⟩] := by
  unfold firsts
  rw [List.take_add_one, List.getElem?_eq_getElem (by simpa using h)]
  simp
theorem firsts_length (k : Nat) (h : k ≤ 8) : (firsts k).length = k := by simp [firsts]; omega
theorem firsts_all : firsts 8 = List.finRange 8 := by unfold firsts; exact List.take_of_length_le (by simp)

/-- one cell is as it was -/
def CellK (B : Nat) (A C : World) : Prop := C.cell? ⟨B, 0, none⟩ = A.cell? ⟨B, 0, none⟩
theorem cellK_t {B : Nat} {X Y Z : World} (h : CellK B X Y) (k : CellK B Y Z) : CellK B X Z := k.trans h
theorem cellK_b {B : Nat} {w : World} (hB : B < w.heap.size) (W : World) (l : Nat) (o o' : Obj) (hl : w.heap.size ≤ l) (_ : W.heap[l]? = some o) (_ : o.isCells = false) (_ : o.isWalk = false) : CellK B W (W.putObj l o') :=
  World.cell?_of_block (a := ⟨B, 0, none⟩) (World.putObj_heap_other (by show B ≠ l; omega))

set_option maxRecDepth 100000 in
set_option maxHeartbeats 2000000 in
theorem sect1_in (n : Nat) (hn : 1 ≤ n) (l Bs g o cap : Nat) (hcap : 4096 ≤ cap) (hmax : cap ≤ 9223372036854775807) (J Jx : List (Fin 8) → World → Prop)
    (hY : ∀ pre x W, J pre W → pre.length < 8 → YieldAt Fence.wide (n - 1) Try.prog l (encS g o x) W fun e W' =>
      (e = .returned (.bool true) ∧ J (pre ++ [x]) W' ∧ CellK Bs W W') ∨ (e = .returned (.bool false) ∧ Jx (pre ++ [x]) W'))
    (W : World) (hBs : W.cell? ⟨Bs, 0, none⟩ = some (.slice (some ⟨g, o, none⟩) 4096 cap)) (h0 : J [] W) :
    CallsIn Fence.wide n Try.prog 56 #[.func (.yield l) #[] #[], .pointer (some ⟨Bs, 0, none⟩)] W fun e W' => (∃ v, e = .returned v) ∧
      ((∃ ys, ys = List.finRange 8 ∧ J ys W') ∨ (∃ pre, (∃ k, k ≤ 8 ∧ pre = firsts k) ∧ Jx pre W')) := by
  refine callsIn_of_wp Try.func56 rfl trivial ?_ rfl
  simp only [Try.ntmps56, List.size_toArray, List.length_cons, List.length_nil, Nat.reduceAdd, Nat.reduceSub, Array.replicate_succ, Array.replicate_zero, List.push_toArray, List.append_toArray, List.nil_append, List.cons_append]
  gi_wp2
  gi_loopw [3] (fun i wr => ∃ k : Nat, k ≤ 8 ∧ i = .int .i64 (((k * 512 : Nat) : Int)) ∧ J (firsts k) wr ∧ wr.cell? ⟨Bs, 0, none⟩ = some (.slice (some ⟨g, o, none⟩) 4096 cap))
    (fun i _ => (4096 - intOf i).toNat)
  case atStart => exact ⟨0, Nat.zero_le _, by simp, h0, hBs⟩
  case round =>
    obtain ⟨k, hk, rfl, hJs, hc⟩ := hrel
    by_cases hlt : k < 8
    · obtain ⟨fn, tmps, assign, body, hy, hR⟩ := hY _ ⟨k, hlt⟩ wr hJs (by rw [firsts_length k hk]; exact hlt)
      dsimp only [encS] at hy
      obtain ⟨m, hm⟩ : ∃ m, m = k * 512 := ⟨_, rfl⟩
      have hm2 : m < 4096 := by omega
      have hm3 : (m : Int) < 4096 := by omega
      have hm4 : 0 ≤ (m : Int) + 512 ∧ (m : Int) + 512 ≤ (cap : Int) := by omega
      have hm5 : ¬ (m + 512 = m) := by omega
      have Hm : Hid _ := hm
      rw [← hm] at hy ⊢
      clear hm
      gi_wp2
      refine hR.mono ?_
      rintro e W3 (⟨rfl, hJ3, hk3⟩ | ⟨rfl, hJx3⟩)
      · gi_wp2
        go_roundw
        case rel => exact ⟨k + 1, by omega, by congr 1; have := Hm.out; omega, by rw [firsts_succ k hlt]; exact hJ3, hk3.trans hc⟩
        case measure => simp [intOf]; omega
      · gi_wp2
        refine bodyPost_ret (results_none rfl _ _ _) rfl ?_
        exact ⟨⟨_, rfl⟩, .inr ⟨_, ⟨k + 1, by omega, (firsts_succ _ hlt).symm⟩, hJx3⟩⟩
    · obtain rfl : k = 8 := by omega
      have e8 : (((8 * 512 : Nat)) : Int) = 4096 := by decide
      rw [e8]
      gi_wp2
      go_end0
      exact ⟨⟨_, rfl⟩, .inl ⟨_, rfl, by rw [← firsts_all]; exact hJs⟩⟩

set_option maxHeartbeats 1000000 in
/-- sectors: the list is boxed; the function captures the box. -/
theorem sectors_in (n : Nat) (a : Option Addr) (len cap : Nat) (w : World) :
    CallsIn Fence.wide n Try.prog 39 #[.slice a len cap] w fun e w' => e = .returned (.func (.func 56) #[] #[.pointer (some ⟨w.heap.size, 0, none⟩)]) ∧ w' = w.alloc (.cells #[.slice a len cap] 31) := by
  refine callsIn_of_wp Try.func39 rfl trivial ?_ rfl
  simp only [Try.ntmps39, List.size_toArray, List.length_cons, List.length_nil, Nat.reduceAdd, Nat.reduceSub, Array.replicate_succ, Array.replicate_zero, List.push_toArray, List.append_toArray, List.nil_append, List.cons_append]
  gi_wp2
  go_ret
  exact ⟨rfl, rfl⟩

theorem sect_stops (n : Nat) (hn : 1 ≤ n) (Bs g o cap : Nat) (hcap : 4096 ≤ cap) (hmax : cap ≤ 9223372036854775807) (w : World) (hBs : Bs < w.heap.size) (hc : w.cell? ⟨Bs, 0, none⟩ = some (.slice (some ⟨g, o, none⟩) 4096 cap)) :
    SeqStopsK Fence.wide n Try.prog 56 #[.pointer (some ⟨Bs, 0, none⟩)] (encS g o) (CellK Bs) (fun ys => ys = List.finRange 8) (fun pre => ∃ k, k ≤ 8 ∧ pre = firsts k) 8 w := fun l J Jx W hW _ _ hY h0 =>
  sect1_in n hn l Bs g o cap hcap hmax J Jx hY W ((hW.cell (p := ⟨Bs, 0, none⟩) hBs).trans hc) h0
end Go.Proofs.Ytghcmlkgpedkkaa
