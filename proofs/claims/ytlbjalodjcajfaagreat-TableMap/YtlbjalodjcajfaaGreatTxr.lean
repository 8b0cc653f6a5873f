/-
  A transaction's Begin, Read and Write.
-/
import Derived.Test.YtlbjalodjcajfaaGreatTxs
namespace Go.Proofs.YtlbjalodjcajfaaGreat
open Go.RowKit Go.Maps
abbrev zs : Array Value := #[.bool false, .string ⟨#[]⟩, .string ⟨#[]⟩]
section
variable {O : List (Nat × Obj)}
variable {w0 u u' : World} {x m g s n : Nat} {k b st : Int} {C : List Cl} {S : SS En} {V : List En} {K : List Bx} {Fs : Nat → Prop}
theorem HT.xc (h : HT O w0 u x m g s n k b st C S V K Fs) : u.cell? ⟨x, 1, none⟩ = some (ptr m) ∧ u.cell? ⟨x, 3, none⟩ = some (.int .i64 b) ∧ u.cell? ⟨x, 4, none⟩ = some (ptr s) := ⟨h.bx.cell 1, h.bx.cell 3, h.bx.cell 4⟩
theorem vw_in (h : HT O w0 u x m g s n k b st C S V K Fs) {j : Nat} {e : En} (hj : V[j]? = some e) : ∃ c, C[j]? = some c ∧ j < n ∧ ((gt S.W (j : Int) = some e) ∨ (gt S.W (j : Int) = none ∧ c.e = e)) := by
  have hjn : j < n := by rw [← h.vl]; exact (List.getElem?_eq_some_iff.1 hj).1
  have hjc : j < C.length := by rw [h.hl]; exact hjn
  have hc := List.getElem?_eq_getElem hjc
  refine ⟨_, hc, hjn, ?_⟩
  have hv := h.hV j hjn
  rw [hj] at hv
  injection hv with hv
  unfold vw at hv
  rw [hc] at hv
  cases hg : gt S.W (j : Int) with
  | some y => rw [hg] at hv; exact .inl (by rw [hv]; rfl)
  | none => rw [hg] at hv; exact .inr ⟨rfl, by rw [hv]; rfl⟩
set_option maxRecDepth 100000 in
set_option maxHeartbeats 4000000 in
theorem hread_at (h : HT O w0 u x m g s n k b 1 C S V K Fs) {j : Nat} {e : En} (hj : V[j]? = some e) : Calls Tryz.prog 35 #[ptr x, .int .i64 (j : Int)] u fun r w' => r = .returned (.tuple #[ag e, .int .i64 0]) ∧ ∃ S' Fs', HT O w0 w' x m g s n k b 1 C S' V K Fs' := by
  obtain ⟨c, hc, hjn, hv⟩ := vw_in h hj
  have h2 := h.n2
  have hwf : (Lit.int .i64 (j : Int)).wf = true := cell_wf (by omega)
  have h1 := (h.box zs 28).box zs 28
  have hq : ∀ y ∈ K, y.1 ≠ u.heap.size := fun y hy e => by have := (h.bK y hy).lt; omega
  have hB := h.bel.size
  have c40 := mayGo h1.bx
  obtain ⟨x1, x3, x4⟩ := h1.xc
  have c41 := value_at h1.hs (j : Int) hwf
  rcases hv with hw | ⟨hw, he⟩
  · rw [hw] at c41
    simp only [Option.getD_some, Option.isSome_some] at c41
    have H1 := hid h1
    clear h h1 hw hj hc hwf
    obtain ⟨eu, ek, ev⟩ := e
    unfold ptr ag at *
    go_enter Tryz.func35, Tryz.ntmps35
    go_wp2_with (go_at_call 60; refine c40.mono ?_; rintro e wx ⟨rfl, hwx⟩; subst wx)
    refine c41.mono ?_
    rintro e w1 ⟨rfl, hb⟩
    have h3 := H1.out.below hb
    have h4 := (h3.box #[.bool eu, .string ek, .string ev] 28).less (K' := (u.heap.size, zs, 28) :: K) (fun y hy => by
      rcases List.mem_cons.1 hy with rfl | hy
      · simp
      · exact List.mem_cons_of_mem _ (List.mem_cons_of_mem _ (List.mem_cons_of_mem _ hy)))
    have hb4 := h4.bK.one
    have g0 : (w1.alloc (.cells #[.bool eu, .string ek, .string ev] 28)).cell? ⟨u.heap.size, 0, none⟩ = some (.bool false) := hb4.cell 0
    have g1 : (w1.alloc (.cells #[.bool eu, .string ek, .string ev] 28)).cell? ⟨u.heap.size, 1, none⟩ = some (.string ⟨#[]⟩) := hb4.cell 1
    have g2 : (w1.alloc (.cells #[.bool eu, .string ek, .string ev] 28)).cell? ⟨u.heap.size, 2, none⟩ = some (.string ⟨#[]⟩) := hb4.cell 2
    have f0 := hb4.frozen 0
    have f1 := hb4.frozen 1
    have f2 := hb4.frozen 2
    have H5 := hid ((h4.put3 hq hB (.bool eu) (.string ek) (.string ev)))
    clear h3 h4 hb4 hb H1 c40 c41
    go_wp2_with fail
    have hb5 := H5.out.bK.one
    have r0 := hb5.cell 0
    have r1 := hb5.cell 1
    have r2 := hb5.cell 2
    simp only [List.getElem?_toArray] at r0 r1 r2
    refine bodyPost_ret (v := .tuple #[.agg #[.bool eu, .string ek, .string ev], .int .i64 0]) (by simp [results, Tryz.results35, go_sem, r0, r1, r2]) rfl ⟨rfl, _, _, H5.out.less (fun y hy => List.mem_cons_of_mem _ hy)⟩
  · obtain ⟨o1, o2, o3⟩ := h.hC c (List.mem_of_getElem? hc)
    subst he
    rw [hw] at c41
    simp only [Option.getD_none, Option.isSome_none] at c41
    have H1 := hid h1
    have HC := hid hc
    clear h h1 hw hj hc
    obtain ⟨⟨eu, ek, ev⟩, cv, co⟩ := c
    simp only at o1 o2 o3
    subst o1
    unfold ptr ag at *
    go_enter Tryz.func35, Tryz.ntmps35
    go_wp2_with (go_at_call 60; refine c40.mono ?_; rintro e wx ⟨rfl, hwx⟩; subst wx)
    refine c41.mono ?_
    rintro e w1 ⟨rfl, hb⟩
    have h3 := (H1.out.below hb).box #[.bool E0.u, .string E0.k, .string E0.v] 28
    obtain ⟨y1, y3, y4⟩ := h3.xc
    have c42 := load_at h3.bm h3.bg h3.hl j _ HC.out
    have H3 := hid h3
    clear H1 h3 hb c40 c41 x1 x3 x4
    unfold ptr ag at *
    simp only [E0] at *
    go_wp2_with fail
    refine c42.mono ?_
    rintro e w2 ⟨rfl, hb⟩
    have h5 := (H3.out.below hb).box #[.bool eu, .string ek, .string ev] 28
    obtain ⟨z1, z3, z4⟩ := h5.xc
    have c43 := agrees_at h5 HC.out
    have c45 := sread_at h5.hs (j : Int) cv (by omega) o2 (h5.room HC.out)
    have H5 := hid h5
    clear H3 h5 hb c42 y1 y3 y4
    unfold ptr at *
    simp only at c43
    have o3' : ¬ b < cv := by omega
    go_wp2_with (go_at_call 63; refine c43.mono ?_; rintro e wx ⟨rfl, hwx⟩; subst wx)
    refine c45.mono ?_
    rintro e w3 ⟨rfl, ht⟩
    have h6 := H5.out.noted HC.out ht
    have hb6 := h6.bK.one
    have l0 : w3.cell? ⟨w2.heap.size, 0, none⟩ = some (.bool eu) := hb6.cell 0
    have l1 : w3.cell? ⟨w2.heap.size, 1, none⟩ = some (.string ek) := hb6.cell 1
    have l2 : w3.cell? ⟨w2.heap.size, 2, none⟩ = some (.string ev) := hb6.cell 2
    have h7 := h6.less (K' := (u.heap.size, zs, 28) :: K) (fun y hy => by
      rcases List.mem_cons.1 hy with rfl | hy
      · simp
      · exact List.mem_cons_of_mem _ (List.mem_cons_of_mem _ (List.mem_cons_of_mem _ (List.mem_cons_of_mem _ hy))))
    have hb4 := h7.bK.one
    have g0 : w3.cell? ⟨u.heap.size, 0, none⟩ = some (.bool false) := hb4.cell 0
    have g1 : w3.cell? ⟨u.heap.size, 1, none⟩ = some (.string ⟨#[]⟩) := hb4.cell 1
    have g2 : w3.cell? ⟨u.heap.size, 2, none⟩ = some (.string ⟨#[]⟩) := hb4.cell 2
    have f0 := hb4.frozen 0
    have f1 := hb4.frozen 1
    have f2 := hb4.frozen 2
    have H8 := hid ((h7.put3 hq hB (.bool eu) (.string ek) (.string ev)))
    clear h6 h7 hb4 hb6 ht H5 c43 c45 z1 z3 z4
    go_wp2_with fail
    have hb5 := H8.out.bK.one
    have r0 := hb5.cell 0
    have r1 := hb5.cell 1
    have r2 := hb5.cell 2
    simp only [List.getElem?_toArray] at r0 r1 r2
    refine bodyPost_ret (v := .tuple #[.agg #[.bool eu, .string ek, .string ev], .int .i64 0]) (by simp [results, Tryz.results35, go_sem, r0, r1, r2]) rfl ⟨rfl, _, _, H8.out.less (fun y hy => List.mem_cons_of_mem _ hy)⟩
set_option maxRecDepth 100000 in
set_option maxHeartbeats 4000000 in
/-- a transaction that is over reads nothing -/
theorem hread_over (h : HT O w0 u x m g s n k b 4 C S V K Fs) (j : Int) : Calls Tryz.prog 35 #[ptr x, .int .i64 j] u fun r w' => r = .returned (.tuple #[ag E0, .int .i64 132]) ∧ HT O w0 w' x m g s n k b 4 C S V K Fs := by
  have h1 := (h.box zs 28).box zs 28
  have c40 := mayNot h1.bx
  have H := hid (h1.less (K' := K) (fun y hy => List.mem_cons_of_mem _ (List.mem_cons_of_mem _ hy)))
  have hb : Below u.heap.size u ((u.alloc (.cells zs 28)).alloc (.cells zs 28)) := ((Below.refl _ u).alloc (Nat.le_refl _) _).alloc (by simp) _
  clear h h1
  unfold ptr ag at *
  simp only [E0] at *
  go_enter Tryz.func35, Tryz.ntmps35
  go_wp2_with (go_at_call 60; refine c40.mono ?_; rintro e wx ⟨rfl, hwx⟩; subst wx)
  refine bodyPost_ret (v := .tuple #[.agg #[.bool false, .string ⟨#[]⟩, .string ⟨#[]⟩], .int .i64 132]) (by simp [results, Tryz.results35, go_sem]) rfl ⟨rfl, H.out⟩
set_option maxRecDepth 100000 in
set_option maxHeartbeats 4000000 in
theorem hwrite_at (h : HT O w0 u x m g s n k b 1 C S V K Fs) {j : Nat} (hjn : j < n) (e : En) : Calls Tryz.prog 43 #[ptr x, .int .i64 (j : Int), ag e] u fun r w' => r = .returned (.int .i64 0) ∧ ∃ S' Fs', HT O w0 w' x m g s n k b 1 C S' (V.set j e) K Fs' := by
  have h2 := h.n2
  have hjc : j < C.length := by rw [h.hl]; exact hjn
  have hc := List.getElem?_eq_getElem hjc
  generalize C[j] = c at hc
  obtain ⟨eu, ek, ev⟩ := e
  have h1 := h.box #[.bool eu, .string ek, .string ev] 28
  have c40 := mayGo h1.bx
  obtain ⟨x1, x3, x4⟩ := h1.xc
  have c42 := load_at h1.bm h1.bg h1.hl j c hc
  have H1 := hid h1
  clear h h1 hc hjc
  obtain ⟨⟨yu, yk, yv⟩, cv, co⟩ := c
  unfold ptr ag at *
  go_enter Tryz.func43, Tryz.ntmps43
  go_wp2_with (go_at_call 60; refine c40.mono ?_; rintro e wx ⟨rfl, hwx⟩; subst wx)
  refine c42.mono ?_
  rintro e w1 ⟨rfl, hb⟩
  have h3 := (H1.out.below hb).box #[.bool yu, .string yk, .string yv] 28
  obtain ⟨y1, y3, y4⟩ := h3.xc
  have hb4 := (h3.less (K' := (u.heap.size, #[.bool eu, .string ek, .string ev], 28) :: K) (fun y hy => List.mem_cons_of_mem _ hy)).bK.one
  have g0 : (w1.alloc (.cells #[.bool yu, .string yk, .string yv] 28)).cell? ⟨u.heap.size, 0, none⟩ = some (.bool eu) := hb4.cell 0
  have g1 : (w1.alloc (.cells #[.bool yu, .string yk, .string yv] 28)).cell? ⟨u.heap.size, 1, none⟩ = some (.string ek) := hb4.cell 1
  have g2 : (w1.alloc (.cells #[.bool yu, .string yk, .string yv] 28)).cell? ⟨u.heap.size, 2, none⟩ = some (.string ev) := hb4.cell 2
  have h4 := h3.below (u' := (w1.alloc (.cells #[.bool yu, .string yk, .string yv] 28)).drew) ⟨rfl, rfl, rfl, Nat.le_refl _, fun _ _ => rfl⟩
  have cw := swrite_at h4.hs (j : Int) ⟨eu, ek, ev⟩ (by omega) (h4.roomW hjn)
  have HK : Hid (∀ w3, To ag 93 91 (w1.alloc (.cells #[.bool yu, .string yk, .string yv] 28)).drew w0.heap.size s { S with W := pt S.W (j : Int) ⟨eu, ek, ev⟩ } Fs w3 → w3.cell? ⟨x, 4, none⟩ = some (ptr s) ∧ w3.cell? ⟨u.heap.size, 0, none⟩ = some (.bool eu) ∧ w3.cell? ⟨u.heap.size, 1, none⟩ = some (.string ek) ∧ w3.cell? ⟨u.heap.size, 2, none⟩ = some (.string ev)) := fun w3 ht => by
    have h5 := h4.wrote hjn ⟨eu, ek, ev⟩ ht
    have hb4 := (h5.less (K' := (u.heap.size, #[.bool eu, .string ek, .string ev], 28) :: K) (fun y hy => List.mem_cons_of_mem _ hy)).bK.one
    exact ⟨h5.xc.2.2, hb4.cell 0, hb4.cell 1, hb4.cell 2⟩
  have H4 := hid h4
  clear H1 h3 h4 hb c40 c42 x1 x3 x4 hb4
  unfold ptr ag at *
  go_wp2_with fail
  go_region_held3 (fun v => v.cell? ⟨x, 4, none⟩ = some (.pointer (some ⟨s, 0, none⟩)) ∧ v.cell? ⟨u.heap.size, 0, none⟩ = some (.bool eu) ∧ v.cell? ⟨u.heap.size, 1, none⟩ = some (.string ek) ∧ v.cell? ⟨u.heap.size, 2, none⟩ = some (.string ev)) (first | exact HK.out _ ht | go_keep) ((go_at_call 67; refine Calls.mono cw ?_; rintro e w3 ⟨rfl, ht⟩))
  have H5 := hid ((H4.out.wrote hjn ⟨eu, ek, ev⟩ ht).less (K' := K) (fun y hy => List.mem_cons_of_mem _ (List.mem_cons_of_mem _ hy)))
  clear H4 ht HK cw
  go_wp2_with fail
  go_ret
  exact ⟨rfl, _, _, H5.out⟩
end
end Go.Proofs.YtlbjalodjcajfaaGreat
