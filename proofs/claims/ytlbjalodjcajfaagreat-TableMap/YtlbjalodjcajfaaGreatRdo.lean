/-
  A table's read over a transaction that is over.
-/
import Derived.Test.YtlbjalodjcajfaaGreatRdt
namespace Go.Proofs.YtlbjalodjcajfaaGreat
open Go.RowKit Go.Maps
variable {mg : MG}
section
variable {w0 u : World} {x t base n : Nat} {V : List En} {K : List Bx}
set_option maxRecDepth 100000 in
set_option maxHeartbeats 2000000 in
theorem tread_over (h : HasT mg w0 u x 4 V K) (ht : tb t x base n ∈ K) (h1 : 1 ≤ n) (hn2 : n ≤ 256) (hb2 : base ≤ 256) :
    Calls Tryz.prog 20 #[ptr t] u fun r w' => r = .returned (.tuple #[.slice none 0 0, .int .i64 132]) ∧ HasT mg w0 w' x 4 V K := by
  have hn : n ≤ 1024 := by omega
  have cb := madeB (h.bK _ ht)
  have mk := make_ents n hn
  have h2 := h.box (flat eE (List.replicate n E0)).toArray 28
  have c3 : u.cell? ⟨t, 3, none⟩ = some (.int .i64 (n : Int)) := (h.bK _ ht).cell 3
  obtain ⟨Z, hZ⟩ : ∃ Z, Z = (flat eE (List.replicate n E0)).toArray := ⟨_, rfl⟩
  rw [← hZ] at mk h2
  have hq : ∀ y ∈ K, y.1 ≠ u.heap.size := fun y hy e => by have := h.lt hy; omega
  have hB := h.low
  have H2 := hid (And.intro h2 hZ)
  obtain ⟨q, hqe⟩ : ∃ q, q = u.heap.size := ⟨_, rfl⟩
  have hn63 : (n : Int) ≤ 9223372036854775807 := by omega
  clear h h2 hZ
  unfold ptr at cb
  unfold ptr
  go_enter Tryz.func20, Tryz.ntmps20
  go_wp2_with (go_at_call 39; refine cb.mono ?_; rintro e wx ⟨rfl, hwx⟩; subst wx)
  rw [← hqe] at H2 hq hB ⊢
  have HST : Hid (HasT mg w0 (u.alloc (.cells Z 28)) x 4 V K) := by
    exact H2.out.1.less (fun y hy => List.mem_cons_of_mem _ hy)
  have HQE := hid hqe
  clear H2 cb c3 mk hqe
  clear hq
  go_loopw [18] (fun i v => i = .int .i64 0 ∧ Hid (HasT mg w0 v x 4 V K)) (fun _ _ => 0)
  case atStart => exact ⟨rfl, HST.out⟩
  case round =>
    clear HST
    obtain ⟨rfl, hrel⟩ := hrel
    have hki : (0 : Int) < (n : Int) := by omega
    have h3 := hrel.out
    have d1 : wr.cell? ⟨t, 1, none⟩ = some (.pointer (some ⟨x, 0, none⟩)) := (h3.bK _ ht).cell 1
    have d2 : wr.cell? ⟨t, 2, none⟩ = some (.int .i64 (base : Int)) := (h3.bK _ ht).cell 2
    have h4 := h3.below (u' := wr.drew) ⟨rfl, rfl, rfl, Nat.le_refl _, fun _ _ => rfl⟩
    have cr := h4.over (base : Int)
    have rw1 : IntKind.i64.wrap (base : Int) = (base : Int) := by rw [IntKind.wrap_i64]; omega
    have HK : Hid (∀ v, HasT mg w0 v x 4 V K → (v.cell? ⟨t, 1, none⟩ = some (.pointer (some ⟨x, 0, none⟩)) ∧ v.cell? ⟨t, 2, none⟩ = some (.int .i64 (base : Int))) ∧ ∀ o : Obj, (v.alloc o).cell? ⟨t, 1, none⟩ = some (.pointer (some ⟨x, 0, none⟩)) ∧ (v.alloc o).cell? ⟨t, 2, none⟩ = some (.int .i64 (base : Int))) := fun v hv =>
      ⟨⟨(hv.bK _ ht).cell 1, (hv.bK _ ht).cell 2⟩, fun o => ⟨((hv.bK _ ht).alloc o).cell 1, ((hv.bK _ ht).alloc o).cell 2⟩⟩
    have h6 := (h3.box zs 28).below (u' := (wr.alloc (.cells zs 28)).drew) ⟨rfl, rfl, rfl, Nat.le_refl _, fun _ _ => rfl⟩
    have cr2 := h6.over (base : Int)
    have HA : Hid (∀ v, HasT mg w0 v x 4 V ((wr.heap.size, zs, 28) :: K) → ((v.cell? ⟨wr.heap.size, 0, none⟩ = some (.bool false) ∧ v.cell? ⟨wr.heap.size, 1, none⟩ = some (.string ⟨#[]⟩) ∧ v.cell? ⟨wr.heap.size, 2, none⟩ = some (.string ⟨#[]⟩)) ∧ (∀ k, v.frozen? ⟨wr.heap.size, k, none⟩ = false)) ∧ (v.cell? ⟨t, 1, none⟩ = some (.pointer (some ⟨x, 0, none⟩)) ∧ v.cell? ⟨t, 2, none⟩ = some (.int .i64 (base : Int))) ∧ ((((v.setCell ⟨wr.heap.size, 0, none⟩ (.bool false)).setCell ⟨wr.heap.size, 1, none⟩ (.string ⟨#[]⟩)).setCell ⟨wr.heap.size, 2, none⟩ (.string ⟨#[]⟩)).cell? ⟨t, 1, none⟩ = some (.pointer (some ⟨x, 0, none⟩)) ∧ (((v.setCell ⟨wr.heap.size, 0, none⟩ (.bool false)).setCell ⟨wr.heap.size, 1, none⟩ (.string ⟨#[]⟩)).setCell ⟨wr.heap.size, 2, none⟩ (.string ⟨#[]⟩)).cell? ⟨t, 2, none⟩ = some (.int .i64 (base : Int))) ∧ HasT mg w0 (((v.setCell ⟨wr.heap.size, 0, none⟩ (.bool false)).setCell ⟨wr.heap.size, 1, none⟩ (.string ⟨#[]⟩)).setCell ⟨wr.heap.size, 2, none⟩ (.string ⟨#[]⟩)) x 4 V ((wr.heap.size, zs, 28) :: K)) := fun v hv => by
      have b1 := hv.bK.one
      have hT2 : tb t x base n ∈ ((wr.heap.size, zs, 28) :: K) := List.mem_cons_of_mem _ ht
      have hp : ∀ y ∈ K, y.1 ≠ wr.heap.size := fun y hy e => by have := h3.lt hy; omega
      have hv2 := ((hv.put hp h3.low 0 (.bool false)).put hp h3.low 1 (.string ⟨#[]⟩)).put hp h3.low 2 (.string ⟨#[]⟩)
      exact ⟨⟨⟨b1.cell 0, b1.cell 1, b1.cell 2⟩, b1.frozen⟩, ⟨(hv.bK _ hT2).cell 1, (hv.bK _ hT2).cell 2⟩, ⟨(hv2.bK _ hT2).cell 1, (hv2.bK _ hT2).cell 2⟩, hv2⟩
    have HBX : Hid (∀ v, HasT mg w0 v x 4 V K → ∀ cs, HasT mg w0 (v.alloc (.cells cs 28)) x 4 V ((v.heap.size, cs, 28) :: K)) := fun v hv cs => hv.box cs 28
    clear h3 h4 h6 hrel
    unfold ptr ag at cr cr2
    simp only [E0] at cr cr2
    go_upto_region 7 with fail
    go_cut [6, 7] from 19 to 34 (fun v6 v7 v => ∃ b6, v6 = .pointer (some ⟨b6, 0, none⟩) ∧ v7 = .int .i64 132 ∧ HasT mg w0 v x 4 V ((b6, zs, 28) :: K))
    case first =>
      go_region_held3 (fun v => v.cell? ⟨t, 1, none⟩ = some (.pointer (some ⟨x, 0, none⟩)) ∧ v.cell? ⟨t, 2, none⟩ = some (.int .i64 (base : Int))) (first | with_reducible exact (HK.out _ h5).1 | with_reducible exact (HK.out _ h5).2 _ | with_reducible exact (HA.out _ h5).2.1 | with_reducible exact (HA.out _ h5).2.2.1 | go_keep) (first | (go_at_call 35; with_reducible refine Calls.mono cr ?_; rintro e w5 ⟨rfl, h5⟩) | (go_at_call 35; with_reducible refine Calls.mono cr2 ?_; rintro e w5 ⟨rfl, h5⟩; have hh := (HA.out _ h5).1; obtain ⟨⟨z0, z1, z2⟩, zf⟩ := hh))
      all_goals go_wp2_with fail
      all_goals (go_meet; case rel => first | exact ⟨_, rfl, rfl, HBX.out _ h5 _⟩ | exact ⟨_, rfl, rfl, (HA.out _ h5).2.2.2⟩)
    case rest =>
      obtain ⟨b6, rfl, rfl, h5⟩ := hcut
      have H8 := hid (h5.less (K' := K) (fun y hy => List.mem_cons_of_mem _ hy))
      clear h5 HA HBX HK
      go_wp2_with fail
      go_ret2
      exact ⟨rfl, H8.out⟩
end
end Go.Proofs.YtlbjalodjcajfaaGreat
