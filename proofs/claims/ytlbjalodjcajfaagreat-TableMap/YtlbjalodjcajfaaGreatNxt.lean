/-
  Next; Put and Remove where there is no table, or the transaction is over.
-/
import Derived.Test.YtlbjalodjcajfaaGreatCal
namespace Go.Proofs.YtlbjalodjcajfaaGreat
open Go.RowKit Go.Maps
variable {mg : MG}
theorem put_nil {w : World} {p : Option Addr} (h : NoB w p) (k v : ByteArray) : Calls Tryz.prog 7 #[.pointer p, .string k, .string v] w fun r w' => r = .returned (.int .i64 1) ∧ w' = w := by
  have c := read_none h
  clear h
  go_enter Tryz.func7, Tryz.ntmps7
  go_wp2_with (go_at_call 20; refine c.mono ?_; rintro e wx ⟨rfl, hwx⟩; subst wx)
  go_ret
  simp
section
variable {w0 u : World} {x t base n : Nat} {st : Int} {V : List En} {K : List Bx}
theorem remove_err {w : World} {p : Option Addr} {er : Int} {Q : World → Prop} (hc : Calls Tryz.prog 20 #[.pointer p] w fun r w' => r = .returned (.tuple #[.slice none 0 0, .int .i64 er]) ∧ Q w') (he : er ≠ 0) (k : ByteArray) : Calls Tryz.prog 8 #[.pointer p, .string k] w fun r w' => r = .returned (.tuple #[.bool false, .int .i64 er]) ∧ Q w' := by
  have he' : (er == 0) = false := by simpa using he
  go_enter Tryz.func8, Tryz.ntmps8
  go_wp2_with fail
  refine hc.mono ?_
  rintro e w1 ⟨rfl, hq⟩
  have HQ := hid hq
  clear hc hq
  go_wp2_with fail
  go_ret2
  exact ⟨rfl, HQ.out⟩
set_option maxRecDepth 100000 in
set_option maxHeartbeats 2000000 in
theorem next_bad (h : HasT mg w0 u x 1 V K) (ht : tb t x base n ∈ K) (h1 : 1 ≤ n) (hb : base + n ≤ V.length) (hr : Rgt (seg V base n) = false) (key : ByteArray) :
    Calls Tryz.prog 36 #[ptr t, .string key] u fun r w' => r = .returned (.tuple #[ag E0, .bool false, .int .i64 241]) ∧ HasT mg w0 w' x 1 V K := by
  have h2 := (h.box #[.string key] 9).box zs 28
  have cr := tread_at h2 (List.mem_cons_of_mem _ (List.mem_cons_of_mem _ ht)) h1 hb
  rw [hr] at cr
  simp only [rdv] at cr
  have hlt := fun (y : Bx) (hy : y ∈ K) => h.lt hy
  have hlo := h.low
  clear h h2
  unfold ptr ag at *
  simp only [E0] at *
  go_enter Tryz.func36, Tryz.ntmps36
  go_wp2_with fail
  refine cr.mono ?_
  rintro e w1 ⟨q, hq, rfl, h3⟩
  have h4 := h3.less (K' := (u.heap.size + 1, zs, 28) :: K) (fun y hy => by
    rcases List.mem_cons.1 hy with rfl | hy
    · simp
    · exact List.mem_cons_of_mem _ (List.mem_cons_of_mem _ (List.mem_cons_of_mem _ hy)))
  have hb4 := h4.bK.one
  have g0 : w1.cell? ⟨u.heap.size + 1, 0, none⟩ = some (.bool false) := hb4.cell 0
  have g1 : w1.cell? ⟨u.heap.size + 1, 1, none⟩ = some (.string ⟨#[]⟩) := hb4.cell 1
  have g2 : w1.cell? ⟨u.heap.size + 1, 2, none⟩ = some (.string ⟨#[]⟩) := hb4.cell 2
  have f0 := hb4.frozen 0
  have f1 := hb4.frozen 1
  have f2 := hb4.frozen 2
  have hp : ∀ y ∈ K, y.1 ≠ u.heap.size + 1 := fun y hy e => by have := hlt y hy; omega
  have H5 := hid (((h4.put hp (by omega) 0 (.bool false)).put hp (by omega) 1 (.string ⟨#[]⟩)).put hp (by omega) 2 (.string ⟨#[]⟩))
  clear h3 h4 hb4 cr hq hp hlt hlo
  go_wp2_with fail
  have hb5 := H5.out.bK.one
  have r0 := hb5.cell 0
  have r1 := hb5.cell 1
  have r2 := hb5.cell 2
  simp at r0 r1 r2
  refine bodyPost_ret (v := .tuple #[.agg #[.bool false, .string ⟨#[]⟩, .string ⟨#[]⟩], .bool false, .int .i64 241]) (by simp [results, Tryz.results36, go_sem, r0, r1, r2]) rfl ⟨rfl, H5.out.less (fun y hy => List.mem_cons_of_mem _ hy)⟩
set_option maxRecDepth 100000 in
set_option maxHeartbeats 4000000 in
theorem next_at (h : HasT mg w0 u x 1 V K) (ht : tb t x base n ∈ K) (h1 : 1 ≤ n) (hb : base + n ≤ V.length) (hr : Rgt (seg V base n) = true) (key : ByteArray) :
    Calls Tryz.prog 36 #[ptr t, .string key] u fun r w' => r = .returned (.tuple #[ag ((nextOf (seg V base n) key).getD E0), .bool (nextOf (seg V base n) key).isSome, .int .i64 0]) ∧ HasT mg w0 w' x 1 V K := by
  have h2 := (h.box #[.string key] 9).box zs 28
  have hv := h.len.2
  have cr := tread_at h2 (List.mem_cons_of_mem _ (List.mem_cons_of_mem _ ht)) h1 hb
  have hsl := seg_len (n := n) hb
  generalize seg V base n = L at *
  rw [hr] at cr
  simp only [rdv] at cr
  have hlt := fun (y : Bx) (hy : y ∈ K) => h.lt hy
  have hlo := h.low
  have hpl : pos L (pAbove key) ≤ n := by rw [← hsl]; exact tw_le (fun e : En => e.u && !(pAbove key) e.k) L
  have hfd := fun (w1 : World) (a : Option Addr) (hk : Box w1 u.heap.size #[.string key] 9) (hl : RdE w1 a L) => place37 (c := n) hk hl hsl (by omega) (rgt_mono hr (pAbove_up key))
  have hnx : nextOf L key = match L[pos L (pAbove key)]? with | none => none | some e => if e.u = true then some e else none := rfl
  generalize hz : nextOf L key = z at *
  generalize pos L (pAbove key) = p at *
  have HFD := hid hfd
  have HNX := hid hnx
  clear h h2 hfd hnx hz
  unfold ptr at *
  go_enter Tryz.func36, Tryz.ntmps36
  go_wp2_with fail
  refine cr.mono ?_
  rintro e w1 ⟨q, hq, rfl, h3⟩
  have hkb : Box w1 u.heap.size #[.string key] 9 := (h3.less (K' := (u.heap.size, #[.string key], 9) :: K) (fun y hy => by
    rcases List.mem_cons.1 hy with rfl | hy
    · simp
    · exact List.mem_cons_of_mem _ (List.mem_cons_of_mem _ (List.mem_cons_of_mem _ hy)))).bK.one
  have cf := HFD.out _ _ hkb h3.rd
  have H3 := hid h3
  clear cr h3 hq hkb
  unfold ptr at *
  go_wp2_with fail
  refine cf.mono ?_
  rintro e w2 ⟨rfl, hb2⟩
  have h4 := H3.out.below hb2
  have hrd := h4.rd
  have h5 := h4.less (K' := (u.heap.size + 1, zs, 28) :: K) (fun y hy => by
    rcases List.mem_cons.1 hy with rfl | hy
    · simp
    · exact List.mem_cons_of_mem _ (List.mem_cons_of_mem _ (List.mem_cons_of_mem _ hy)))
  have hb4 := h5.bK.one
  have g0 : w2.cell? ⟨u.heap.size + 1, 0, none⟩ = some (.bool false) := hb4.cell 0
  have g1 : w2.cell? ⟨u.heap.size + 1, 1, none⟩ = some (.string ⟨#[]⟩) := hb4.cell 1
  have g2 : w2.cell? ⟨u.heap.size + 1, 2, none⟩ = some (.string ⟨#[]⟩) := hb4.cell 2
  have f0 := hb4.frozen 0
  have f1 := hb4.frozen 1
  have f2 := hb4.frozen 2
  have hp : ∀ y ∈ K, y.1 ≠ u.heap.size + 1 := fun y hy e => by have := hlt y hy; omega
  have H5 : Hid (∀ a b c, HasT mg w0 (((w2.setCell ⟨u.heap.size + 1, 0, none⟩ a).setCell ⟨u.heap.size + 1, 1, none⟩ b).setCell ⟨u.heap.size + 1, 2, none⟩ c) x 1 V ((u.heap.size + 1, #[a, b, c], 28) :: K)) := fun a b c => ((h5.put hp (by omega) 0 a).put hp (by omega) 1 b).put hp (by omega) 2 c
  clear cf hb2 h4 h5 H3 hb4 hp hlt hlo HFD
  by_cases hpn : p = n
  · subst p
    have hnx := HNX.out
    rw [List.getElem?_eq_none (by omega)] at hnx
    simp only at hnx
    subst hnx
    clear hrd HNX hsl hpl
    go_wp2_with fail
    have hb5 := (H5.out (.bool false) (.string ⟨#[]⟩) (.string ⟨#[]⟩)).bK.one
    have r0 := hb5.cell 0
    have r1 := hb5.cell 1
    have r2 := hb5.cell 2
    simp at r0 r1 r2
    refine bodyPost_ret (v := .tuple #[.agg #[.bool false, .string ⟨#[]⟩, .string ⟨#[]⟩], .bool false, .int .i64 0]) (by simp [results, Tryz.results36, go_sem, r0, r1, r2]) rfl ⟨rfl, (H5.out _ _ _).less (fun y hy => List.mem_cons_of_mem _ hy)⟩
  · have hpl2 : p < n := by omega
    have hki : (p : Int) < (n : Int) := by omega
    have hne : ¬ (p : Int) = (n : Int) := by omega
    have hpL : p < L.length := by omega
    have hx := List.getElem?_eq_getElem hpL
    obtain ⟨e, hee⟩ : ∃ e, e = L[p] := ⟨_, rfl⟩
    rw [← hee] at hx
    have hnx := HNX.out
    rw [hx] at hnx
    obtain ⟨b0, o0, he0, hbl, d0, d1, d2⟩ := hrd p e hx
    injection he0 with he0
    injection he0 with he1 he2
    subst he1 he2
    simp only [Nat.zero_add] at d0 d1 d2
    obtain ⟨eu, ek, ev⟩ := e
    simp only at d0 d1 d2 hnx
    clear hrd HNX hsl hpl hpL hx hee hbl
    cases eu with
    | false =>
      simp only [Bool.false_eq_true, if_false] at hnx
      subst hnx
      go_wp2_with fail
      have hb5 := (H5.out (.bool false) (.string ⟨#[]⟩) (.string ⟨#[]⟩)).bK.one
      have r0 := hb5.cell 0
      have r1 := hb5.cell 1
      have r2 := hb5.cell 2
      simp at r0 r1 r2
      refine bodyPost_ret (v := .tuple #[.agg #[.bool false, .string ⟨#[]⟩, .string ⟨#[]⟩], .bool false, .int .i64 0]) (by simp [results, Tryz.results36, go_sem, r0, r1, r2]) rfl ⟨rfl, (H5.out _ _ _).less (fun y hy => List.mem_cons_of_mem _ hy)⟩
    | true =>
      simp only [if_true] at hnx
      subst hnx
      go_wp2_with fail
      have hb5 := (H5.out (.bool true) (.string ek) (.string ev)).bK.one
      have r0 := hb5.cell 0
      have r1 := hb5.cell 1
      have r2 := hb5.cell 2
      simp at r0 r1 r2
      refine bodyPost_ret (v := .tuple #[.agg #[.bool true, .string ek, .string ev], .bool true, .int .i64 0]) (by simp [results, Tryz.results36, go_sem, r0, r1, r2]) rfl ⟨rfl, (H5.out _ _ _).less (fun y hy => List.mem_cons_of_mem _ hy)⟩
end
end Go.Proofs.YtlbjalodjcajfaaGreat
