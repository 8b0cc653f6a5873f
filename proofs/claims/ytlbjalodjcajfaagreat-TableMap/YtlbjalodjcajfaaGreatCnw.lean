/-
  A memory's Owned, where nobody owns anything; New.
-/
import Derived.Test.YtlbjalodjcajfaaGreatEnt
namespace Go.Proofs.YtlbjalodjcajfaaGreat
open Go.RowKit
set_option maxRecDepth 100000 in
set_option maxHeartbeats 2000000 in
theorem owned_none {w : World} {m g n : Nat} {k : Int} {C : List Cl} (h : Box w m #[ptr m, .slice (some ⟨g, 0, none⟩) n n, .int .i64 k] 56) (hr : Box w g (cls C).toArray 119) (hl : C.length = n) (hn : n ≤ 1024) (ho : ∀ c ∈ C, c.own = 0) : Calls Tryz.prog 58 #[ptr m, .int .i64 1] w fun r w' => r = .returned (.slice none 0 0) ∧ w' = w := by
  have cm := madeM h
  have co := isOwner_at w 1
  have c1 : w.cell? ⟨m, 1, none⟩ = some (.slice (some ⟨g, 0, none⟩) n n) := h.cell 1
  have HR := hid (And.intro hr (And.intro hl ho))
  clear h hr hl ho
  rw [show decide ((1 : Int) ≤ 1) = true from rfl] at co
  unfold ptr at *
  go_enter Tryz.func58, Tryz.ntmps58
  go_wp2_with (first | (go_at_call 38; refine cm.mono ?_; rintro e wx ⟨rfl, hwx⟩; subst wx) | (go_at_call 74; refine co.mono ?_; rintro e wx ⟨rfl, hwx⟩; subst wx))
  clear cm co
  go_loopw [5, 20] (fun v i u => ∃ j : Nat, j ≤ n ∧ i = .int .i64 (j : Int) ∧ v = .slice none 0 0 ∧ u = w) (fun _ i _ => n - (iof i).toNat)
  case atStart => exact ⟨0, Nat.zero_le _, by simp, rfl, rfl⟩
  case round =>
    obtain ⟨j, hj, rfl, rfl, hw⟩ := hrel
    subst wr
    by_cases hlt : j < n
    · have hki : (j : Int) < (n : Int) := by omega
      obtain ⟨hr, hl, ho⟩ := HR.out
      have hjl : j < C.length := by rw [hl]; exact hlt
      have hc := List.getElem?_eq_getElem hjl
      obtain ⟨d0, d1, d2, d3, d4⟩ := row_get hr hc
      rw [ho _ (List.getElem_mem hjl)] at d4
      clear hr hl ho hc d0 d1 d2 d3
      go_wp2_with fail
      go_roundw
      case rel => exact ⟨j + 1, by omega, by simp, by simp⟩
      case measure => simp only [iof]; omega
    · have hki : ¬ (j : Int) < (n : Int) := by omega
      go_wp2_with fail
      go_ret
      exact ⟨rfl, rfl⟩
theorem infoC : (Tryz.prog.info? 119).map (fun i => (i.zero, i.size, i.bytes)) = some (some (.agg #[.bool false, .string ⟨#[]⟩, .string ⟨#[]⟩, .int .i64 0, .int .i64 0]), 5, 56) := by kernel_rfl
theorem make_cells (n : Nat) (hn : n ≤ 1024) (u : World) : (Instr.makeSlice 54 (.int .i64 (n : Int)) (.int .i64 (n : Int))).run Tryz.prog u = .ok (.slice (some ⟨u.heap.size, 0, none⟩) n n) (u.alloc (.cells (cls (List.replicate n ⟨E0, 0, 0⟩)).toArray 119)) := by
  obtain ⟨i0, hi, hz0, hz1, hz2⟩ := info_parts infoC
  have h := run_make (P := Tryz.prog) u 54 119 i0 (.agg #[.bool false, .string ⟨#[]⟩, .string ⟨#[]⟩, .int .i64 0, .int .i64 0]) Tryz.underlying54 hi hz0 .i64 .i64 (n : Int) (n : Int) (by omega) (Int.le_refl _) (by rw [hz2]; omega) (by omega)
  have e : ((n : Int)).toNat = n := by omega
  rw [e, hz1] at h
  rw [← cls_made]
  exact h
def C0 (n : Nat) : List Cl := List.replicate n ⟨E0, 0, 0⟩
theorem cnew_at (w : World) (n : Nat) (h1 : 1 ≤ n) (h2 : n ≤ 1024) : Calls Tryz.prog 4 #[.int .i64 (n : Int)] w fun r w' => ∃ m g, r = .returned (.tuple #[ptr m, .int .i64 0]) ∧ w.heap.size ≤ m ∧ w.heap.size ≤ g ∧ m ≠ g ∧ Box w' m #[ptr m, .slice (some ⟨g, 0, none⟩) n n, .int .i64 0] 56 ∧ Box w' g (cls (C0 n)).toArray 119 ∧ Below w.heap.size w w' := by
  have hmk := make_cells n h2
  have hn0 : (1 : Int) ≤ (n : Int) := by omega
  have hn1 : (n : Int) ≤ 1024 := by omega
  have hz : (cls (List.replicate n ⟨E0, 0, 0⟩)).toArray = (cls (C0 n)).toArray := rfl
  rw [hz] at hmk
  obtain ⟨Z, hZ⟩ : ∃ Z, Z = (cls (C0 n)).toArray := ⟨_, rfl⟩
  rw [← hZ] at hmk ⊢
  clear hZ hz
  have xm := Box.new (w.alloc (.cells Z 119)) #[ptr (w.heap.size + 1), .slice (some ⟨w.heap.size, 0, none⟩) n n, .int .i64 0] 56
  have xs := (Box.new w Z 119).alloc (.cells #[ptr (w.heap.size + 1), .slice (some ⟨w.heap.size, 0, none⟩) n n, .int .i64 0] 56)
  have e1 : (w.alloc (.cells Z 119)).heap.size = w.heap.size + 1 := by simp
  rw [e1] at xm
  have bb := ((Below.refl w.heap.size w).alloc (Nat.le_refl _) (.cells Z 119)).alloc (by rw [e1]; omega) (.cells #[ptr (w.heap.size + 1), .slice (some ⟨w.heap.size, 0, none⟩) n n, .int .i64 0] 56)
  have H : Hid (Box ((w.alloc (.cells Z 119)).alloc (.cells #[ptr (w.heap.size + 1), .slice (some ⟨w.heap.size, 0, none⟩) n n, .int .i64 0] 56)) (w.heap.size + 1) #[ptr (w.heap.size + 1), .slice (some ⟨w.heap.size, 0, none⟩) n n, .int .i64 0] 56 ∧ Box ((w.alloc (.cells Z 119)).alloc (.cells #[ptr (w.heap.size + 1), .slice (some ⟨w.heap.size, 0, none⟩) n n, .int .i64 0] 56)) w.heap.size Z 119 ∧ Below w.heap.size w ((w.alloc (.cells Z 119)).alloc (.cells #[ptr (w.heap.size + 1), .slice (some ⟨w.heap.size, 0, none⟩) n n, .int .i64 0] 56))) := ⟨xm, xs, bb⟩
  clear xm xs e1 bb
  unfold ptr at *
  go_enter Tryz.func4, Tryz.ntmps4
  go_wp2
  obtain ⟨H1, H2, H3⟩ := H.out
  exact bodyPost_ret (v := .tuple #[.pointer (some ⟨w.heap.size + 1, 0, none⟩), .int .i64 0]) (by simp [results, Tryz.results4, go_sem]) rfl ⟨w.heap.size + 1, w.heap.size, rfl, by omega, Nat.le_refl _, by omega, H1, H2, H3⟩
end Go.Proofs.YtlbjalodjcajfaaGreat
