/-
  A memory's calls that find a cell; New.
-/
import Derived.Test.YtafiopjgegmfoaaCFind
namespace Go.Proofs.Ytafiopjgegmfoaa.C
open Go.RowKit

theorem findFor_ok {w : World} {m g n : Nat} {k : Value} (h : Box w m #[ptr m, .slice (some ⟨g, 0, none⟩) n n, k] 65) (i : Nat) (hi : i < n) (hn : n ≤ 1024) (o : Int) (ho : 1 ≤ o) : Calls Try.prog 55 #[ptr m, .int .i64 (i : Int), .int .i64 o] w fun r w' => r = .returned (.tuple #[.pointer (some ⟨g, i * 3, none⟩), .int .i64 0]) ∧ w' = w := by
  have c := find_in h i hi hn
  have co := isOwner_at w o
  have ho' : decide (1 ≤ o) = true := by simpa using ho
  rw [ho'] at co
  clear h
  unfold ptr at *
  go_enter Try.func55, Try.ntmps55
  go_wp2_with (first | (go_at_call 34; refine c.mono ?_; rintro e w' ⟨rfl, rfl⟩) | (go_at_call 52; refine co.mono ?_; rintro e w' ⟨rfl, rfl⟩))
  go_ret2
  simp
theorem findFor_no {w : World} {m g n : Nat} {k : Value} (h : Box w m #[ptr m, .slice (some ⟨g, 0, none⟩) n n, k] 65) (i : Int) (o : Int) (hn : n ≤ 1024) (hi : (i < 0 ∨ (n : Int) ≤ i) ∨ o < 1) : Calls Try.prog 55 #[ptr m, .int .i64 i, .int .i64 o] w fun r w' => r = .returned (.tuple #[.pointer none, .int .i64 2]) ∧ w' = w := by
  by_cases h1 : i < 0 ∨ (n : Int) ≤ i
  · have c := find_out h i h1
    clear h hi h1
    unfold ptr at *
    go_enter Try.func55, Try.ntmps55
    go_wp2_with (first | (go_at_call 34; refine c.mono ?_; rintro e w' ⟨rfl, rfl⟩))
    go_ret2
    simp
  · have ho : o < 1 := by omega
    obtain ⟨j, rfl⟩ : ∃ j : Nat, i = (j : Int) := ⟨i.toNat, by omega⟩
    have c := find_in h j (by omega) hn
    have co := isOwner_at w o
    have ho' : decide (1 ≤ o) = false := by simpa using ho
    rw [ho'] at co
    clear h hi h1 ho ho'
    unfold ptr at *
    go_enter Try.func55, Try.ntmps55
    go_wp2_with (first | (go_at_call 34; refine c.mono ?_; rintro e w' ⟨rfl, rfl⟩) | (go_at_call 52; refine co.mono ?_; rintro e w' ⟨rfl, rfl⟩))
    go_ret2
    simp
theorem findOf_ok {w : World} {m g n : Nat} {k : Value} (h : Box w m #[ptr m, .slice (some ⟨g, 0, none⟩) n n, k] 65) (i : Nat) (hi : i < n) (hn : n ≤ 1024) (o : Int) (ho : 1 ≤ o) (hc : w.cell? ⟨g, i * 3 + 2, none⟩ = some (.int .i64 o)) : Calls Try.prog 53 #[ptr m, .int .i64 (i : Int), .int .i64 o] w fun r w' => r = .returned (.tuple #[.pointer (some ⟨g, i * 3, none⟩), .int .i64 0]) ∧ w' = w := by
  have c := findFor_ok h i hi hn o ho
  clear h
  unfold ptr at *
  go_enter Try.func53, Try.ntmps53
  go_wp2_with (first | (go_at_call 55; refine c.mono ?_; rintro e w' ⟨rfl, rfl⟩))
  go_ret2
  simp
theorem findOf_busy {w : World} {m g n : Nat} {k : Value} (h : Box w m #[ptr m, .slice (some ⟨g, 0, none⟩) n n, k] 65) (i : Nat) (hi : i < n) (hn : n ≤ 1024) (o q : Int) (ho : 1 ≤ o) (hc : w.cell? ⟨g, i * 3 + 2, none⟩ = some (.int .i64 q)) (hq : q ≠ o) : Calls Try.prog 53 #[ptr m, .int .i64 (i : Int), .int .i64 o] w fun r w' => r = .returned (.tuple #[.pointer none, .int .i64 130]) ∧ w' = w := by
  have c := findFor_ok h i hi hn o ho
  clear h
  unfold ptr at *
  go_enter Try.func53, Try.ntmps53
  go_wp2_with (first | (go_at_call 55; refine c.mono ?_; rintro e w' ⟨rfl, rfl⟩))
  go_ret2
  simp
theorem findOf_no {w : World} {m g n : Nat} {k : Value} (h : Box w m #[ptr m, .slice (some ⟨g, 0, none⟩) n n, k] 65) (i : Int) (o : Int) (hn : n ≤ 1024) (hi : (i < 0 ∨ (n : Int) ≤ i) ∨ o < 1) : Calls Try.prog 53 #[ptr m, .int .i64 i, .int .i64 o] w fun r w' => r = .returned (.tuple #[.pointer none, .int .i64 2]) ∧ w' = w := by
  have c := findFor_no h i o hn hi
  clear h hi
  unfold ptr at *
  go_enter Try.func53, Try.ntmps53
  go_wp2_with (first | (go_at_call 55; refine c.mono ?_; rintro e w' ⟨rfl, rfl⟩))
  go_ret2
  simp
theorem infoC : (Try.prog.info? 81).map (fun i => (i.zero, i.size, i.bytes)) = some (some (.agg #[.int .i64 0, .int .i64 0, .int .i64 0]), 3, 24) := by kernel_rfl
theorem make_cells (n : Nat) (hn : n ≤ 1024) (u : World) : (Instr.makeSlice 63 (.int .i64 (n : Int)) (.int .i64 (n : Int))).run Try.prog u = .ok (.slice (some ⟨u.heap.size, 0, none⟩) n n) (u.alloc (.cells (cls (List.replicate n ⟨.int .i64 0, 0, 0⟩)).toArray 81)) := by
  obtain ⟨i0, hi, hz0, hz1, hz2⟩ := info_parts infoC
  have h := run_make (P := Try.prog) u 63 81 i0 (.agg #[.int .i64 0, .int .i64 0, .int .i64 0]) Try.underlying63 hi hz0 .i64 .i64 (n : Int) (n : Int) (by omega) (Int.le_refl _) (by rw [hz2]; omega) (by omega)
  have e : ((n : Int)).toNat = n := by omega
  rw [e, hz1] at h
  rw [← cls_made]
  exact h
theorem new_no (w : World) (n : Int) (hn : n < 1 ∨ 1024 < n) : Calls Try.prog 8 #[.int .i64 n] w fun r w' => r = .returned (.tuple #[.pointer none, .int .i64 2]) ∧ w' = w := by
  by_cases h1 : n < 1
  · go_enter Try.func8, Try.ntmps8
    go_wp2
    go_ret2
    simp
  · have h2 : 1024 < n := by omega
    clear hn
    go_enter Try.func8, Try.ntmps8
    go_wp2
    go_ret2
    simp
def M0 (n : Nat) : M := ⟨List.replicate n ⟨.int .i64 0, 0, 0⟩, 0⟩
theorem new_at (w : World) (n : Nat) (h1 : 1 ≤ n) (h2 : n ≤ 1024) : Calls Try.prog 8 #[.int .i64 (n : Int)] w fun r w' => ∃ m, r = .returned (.tuple #[ptr m, .int .i64 0]) ∧ IsM 65 81 w' w.heap.size m (M0 n) ∧ Below w.heap.size w w' := by
  have hmk := make_cells n h2
  have hz : (cls (List.replicate n ⟨.int .i64 0, 0, 0⟩)).toArray = (cls (M0 n).C).toArray := rfl
  have hl : (M0 n).C.length = n := by simp [M0]
  have hq : (M0 n).k = 0 := rfl
  rw [hz] at hmk
  have hn0 : (1 : Int) ≤ (n : Int) := by omega
  have hn1 : (n : Int) ≤ 1024 := by omega
  obtain ⟨S, hS⟩ : ∃ S, S = M0 n := ⟨_, rfl⟩
  rw [← hS] at hmk hl hq ⊢
  clear hS hz
  have HS : Hid (S.C.length = n ∧ S.k = 0) := ⟨hl, hq⟩
  clear hl hq
  generalize hZ : (cls S.C).toArray = Z at hmk
  have HZ : Hid ((cls S.C).toArray = Z) := hZ
  clear hZ
  have xm := Box.new (w.alloc (.cells Z 81)) #[ptr (w.heap.size + 1), .slice (some ⟨w.heap.size, 0, none⟩) n n, .int .i64 0] 65
  have xs := (Box.new w Z 81).alloc (.cells #[ptr (w.heap.size + 1), .slice (some ⟨w.heap.size, 0, none⟩) n n, .int .i64 0] 65)
  have e1 : (w.alloc (.cells Z 81)).heap.size = w.heap.size + 1 := by simp
  rw [e1] at xm
  have bb := ((Below.refl w.heap.size w).alloc (Nat.le_refl _) (.cells Z 81)).alloc (by rw [e1]; omega) (.cells #[ptr (w.heap.size + 1), .slice (some ⟨w.heap.size, 0, none⟩) n n, .int .i64 0] 65)
  have H : Hid (Box ((w.alloc (.cells Z 81)).alloc (.cells #[ptr (w.heap.size + 1), .slice (some ⟨w.heap.size, 0, none⟩) n n, .int .i64 0] 65)) (w.heap.size + 1) #[ptr (w.heap.size + 1), .slice (some ⟨w.heap.size, 0, none⟩) n n, .int .i64 0] 65 ∧ Box ((w.alloc (.cells Z 81)).alloc (.cells #[ptr (w.heap.size + 1), .slice (some ⟨w.heap.size, 0, none⟩) n n, .int .i64 0] 65)) w.heap.size Z 81 ∧ Below w.heap.size w ((w.alloc (.cells Z 81)).alloc (.cells #[ptr (w.heap.size + 1), .slice (some ⟨w.heap.size, 0, none⟩) n n, .int .i64 0] 65))) := ⟨xm, xs, bb⟩
  clear xm xs e1 bb
  unfold ptr at *
  go_enter Try.func8, Try.ntmps8
  go_wp2
  obtain ⟨H1, H2, H3⟩ := H.out
  refine bodyPost_ret (v := .tuple #[.pointer (some ⟨w.heap.size + 1, 0, none⟩), .int .i64 0]) (by simp [results, Try.results8, go_sem]) rfl ⟨w.heap.size + 1, rfl, ⟨by omega, ⟨?_, ?_, ?_, ?_⟩, w.heap.size, by omega, ?_, ?_⟩, H3⟩
  · have := HS.out.1; omega
  · have := HS.out.1; omega
  · rw [HS.out.2]; omega
  · rw [HS.out.2]; omega
  · rw [HS.out.1, HS.out.2]; exact H1
  · unfold Row; rw [HZ.out]; exact H2

end Go.Proofs.Ytafiopjgegmfoaa.C
