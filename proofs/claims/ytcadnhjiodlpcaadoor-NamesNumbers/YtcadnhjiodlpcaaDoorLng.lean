/-
  So many bytes.
-/
import Derived.Test.YtcadnhjiodlpcaaDoorCpy
import Derived.Laws.BytesArg
namespace Go.Proofs.YtcadnhjiodlpcaaDoor
open Go.RowKit
def xs (n : Nat) : Tx := List.replicate n 120
def lc (n i : Nat) : Array Value := (List.replicate i (Value.int .u8 120) ++ List.replicate (n - i) (Value.int .u8 0)).toArray
theorem lc_size (n i : Nat) (h : i ≤ n) : (lc n i).size = n := by simp [lc]; omega
theorem lc_set (n i : Nat) (h : i < n) : (lc n i).setIfInBounds i (.int .u8 120) = lc n (i + 1) := by
  unfold lc
  rw [List.setIfInBounds_toArray]
  congr 1
  have e : n - i = (n - (i + 1)) + 1 := by omega
  rw [e, List.replicate_succ]
  have : List.replicate i (Value.int .u8 120) ++ Value.int .u8 0 :: List.replicate (n - (i + 1)) (Value.int .u8 0) = List.replicate i (Value.int .u8 120) ++ Value.int .u8 0 :: List.replicate (n - (i + 1)) (Value.int .u8 0) := rfl
  rw [List.set_append_right _ _ (by simp)]
  simp [List.replicate_succ', List.append_assoc]
theorem lc_get (n i j : Nat) (h : j < n) (hi : i ≤ n) : ∃ v, (lc n i)[j]? = some v := ⟨_, Array.getElem?_eq_getElem (by rw [lc_size n i hi]; exact h)⟩
theorem lc_full (n j : Nat) (h : j < n) : (lc n n)[j]? = some (Value.int .u8 120) := by simp [lc, h]
theorem infoB : (Tryd.prog.info? 5).map (fun i => (i.zero, i.size, i.bytes)) = some (some (.int .u8 0), 1, 1) := by kernel_rfl
theorem made_lc (n : Nat) : madeCells #[Value.int .u8 0] n = lc n 0 := by
  apply Array.ext
  · simp [lc, madeCells]
  · intro i h1 h2
    simp [lc, madeCells, Nat.mod_one]
theorem make_run (n : Nat) (hn : n ≤ 1000) (u : World) : (Instr.makeSlice 38 (.int .i64 (n : Int)) (.int .i64 (n : Int))).run Tryd.prog u =
    .ok (.slice (some ⟨u.heap.size, 0, none⟩) n n) (u.alloc (.cells (lc n 0) 5)) := by
  obtain ⟨i0, hi, hz0, hz1, hz2⟩ := info_parts infoB
  have h := run_make (P := Tryd.prog) u 38 5 i0 (.int .u8 0) Tryd.underlying38 hi hz0 .i64 .i64 (n : Int) (n : Int) (by omega) (Int.le_refl _) (by rw [hz2]; omega) (by omega)
  have e : ((n : Int)).toNat = n := by omega
  rw [e, hz1, Nat.mul_one] at h
  rw [← made_lc]
  exact h
def BoxL (u : World) (g n i : Nat) : Prop := u.heap[g]? = some (.cells (lc n i) 5 (0, 0))
set_option maxRecDepth 100000 in
theorem long_at (n : Nat) (hn : n ≤ 1000) (w : World) : Calls Tryd.prog 7 #[.int .i64 (n : Int)] w fun e w' => e = .returned (.string (bs (xs n))) ∧ Below w.heap.size w w' := by
  have hm := make_run n hn
  have B0 : Hid (Below w.heap.size w (w.alloc (.cells (lc n 0) 5))) := (Below.refl _ _).alloc (Nat.le_refl _) _
  have X0 : Hid (BoxL (w.alloc (.cells (lc n 0) 5)) w.heap.size n 0) := heap_alloc_new w _
  have hgg : ∃ g, g = w.heap.size := ⟨_, rfl⟩
  go_enter Tryd.func7, Tryd.ntmps7
  go_wp2_with fail
  go_loopw [4] (fun v u => ∃ i : Nat, i ≤ n ∧ v = .int .i64 (i : Int) ∧ Hid (BoxL u w.heap.size n i ∧ Below w.heap.size w u)) (fun v _ => n - (iof v).toNat)
  case atStart => exact ⟨0, by omega, by simp, X0.out, B0.out⟩
  case round =>
    obtain ⟨i, hi, rfl, hrel⟩ := hrel
    by_cases hlt : i < n
    · have hlt' : (i : Int) < (n : Int) := by omega
      have wr1 : IntKind.i64.wrap ((i : Int) + 1) = ((i + 1 : Nat) : Int) := by rw [IntKind.wrap_i64]; omega
      have hbox : wr.heap[w.heap.size]? = some (.cells (lc n i) 5 (0, 0)) := hrel.out.1
      obtain ⟨v0, hv0⟩ := lc_get n i i hlt hi
      have cc : wr.cell? ⟨w.heap.size, i, none⟩ = some v0 := (cell_of_row _ _ i _ 5 (0, 0) hbox).trans hv0
      have cf : wr.frozen? ⟨w.heap.size, i, none⟩ = false := frozen_of_row _ _ i _ 5 hbox
      have HF : Hid (BoxL (wr.setCell ⟨w.heap.size, i, none⟩ (.int .u8 120)) w.heap.size n (i + 1) ∧ Below w.heap.size w (wr.setCell ⟨w.heap.size, i, none⟩ (.int .u8 120))) := by
        refine ⟨?_, hrel.out.2.setCell (p := ⟨w.heap.size, i, none⟩) (Nat.le_refl _) _⟩
        have := heap_setCell_same wr w.heap.size i (lc n i) 5 (.int .u8 120) hbox
        rw [lc_set n i hlt] at this
        exact this
      clear hrel hbox hv0
      go_wp2_with fail
      go_roundw
      case rel => exact ⟨i + 1, by omega, by simp, HF.out⟩
      case measure => simp only [iof]; omega
    · have hlt' : ¬ (i : Int) < (n : Int) := by omega
      obtain rfl : i = n := by omega
      have hcv : (convert 38 9 (.slice (some ⟨w.heap.size, 0, none⟩) i i)).run Tryd.prog wr = .ok (.string (bs (xs i))) wr := by
        have hl : (xs i).length = i := by simp [xs]
        have := run_convert_bytes_back wr 38 9 5 ⟨w.heap.size, 0, none⟩ i (xs i) Tryd.underlying38 Tryd.underlying5 Tryd.underlying9 (fun j hj => by
          rw [hl] at hj
          rw [Addr.add_lit, Nat.zero_add, cell_of_row _ _ j _ 5 (0, 0) hrel.out.1, lc_full i j hj]
          simp [xs])
        rw [hl] at this
        exact this
      have HF := hid hrel.out.2
      clear hrel
      go_wp2_with fail
      go_ret
      exact ⟨rfl, HF.out⟩
end Go.Proofs.YtcadnhjiodlpcaaDoor
