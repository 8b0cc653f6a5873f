/-
  A table's write: those cells whose entry is another one.
-/
import Derived.Test.YtlbjalodjcajfaaGreatNxt
namespace Go.Proofs.YtlbjalodjcajfaaGreat
open Go.RowKit Go.Maps
variable {mg : MG}
/-! ### plainly -/
def lay (V : List En) (base : Nat) (M : List En) : List En := V.take base ++ (M ++ V.drop (base + M.length))
def mix (L1 L2 : List En) (j : Nat) : List En := L2.take j ++ L1.drop j
theorem lay_len {V M : List En} {base : Nat} (h : base + M.length ≤ V.length) : (lay V base M).length = V.length := by unfold lay; simp; omega
theorem lay_seg {V : List En} {base n : Nat} (h : base + n ≤ V.length) : lay V base (seg V base n) = V := by
  have hl := seg_len (n := n) h
  unfold lay
  rw [hl]
  unfold seg
  rw [show V.drop (base + n) = (V.drop base).drop n by rw [List.drop_drop], List.take_append_drop, List.take_append_drop]
theorem seg_lay {V M : List En} {base n : Nat} (h : base ≤ V.length) (hn : M.length = n) : seg (lay V base M) base n = M := by
  unfold seg lay
  rw [List.drop_append, show (V.take base).length = base by simp; omega, Nat.sub_self, List.drop_eq_nil_of_le (by simp; omega), List.nil_append, List.drop_zero, ← hn, List.take_left]
theorem lay_set {V M : List En} {base j : Nat} (h : base ≤ V.length) (hj : j < M.length) (e : En) : (lay V base M).set (base + j) e = lay V base (M.set j e) := by
  have hl : (V.take base).length = base := by simp; omega
  unfold lay
  rw [List.set_append_right _ _ (by omega), hl, show base + j - base = j by omega, List.set_append_left _ _ hj, List.length_set]
theorem mix_len {L1 L2 : List En} {n j : Nat} (h1 : L1.length = n) (h2 : L2.length = n) (hj : j ≤ n) : (mix L1 L2 j).length = n := by unfold mix; simp; omega
theorem mix_zero (L1 L2 : List En) : mix L1 L2 0 = L1 := by simp [mix]
theorem mix_all {L1 L2 : List En} {n : Nat} (h1 : L1.length = n) (h2 : L2.length = n) : mix L1 L2 n = L2 := by
  unfold mix
  rw [List.drop_eq_nil_of_le (by omega), List.take_of_length_le (by omega), List.append_nil]
theorem mix_set {L1 L2 : List En} {n j : Nat} (h1 : L1.length = n) (h2 : L2.length = n) (hj : j < n) {e : En} (he : L2[j]? = some e) : (mix L1 L2 j).set j e = mix L1 L2 (j + 1) := by
  unfold mix
  have hl : (L2.take j).length = j := by simp; omega
  rw [List.set_append_right _ _ (by omega), hl, Nat.sub_self, List.take_add_one, he]
  have : L1.drop j = L1[j] :: L1.drop (j + 1) := List.drop_eq_getElem_cons (by omega)
  rw [this, List.set_cons_zero]
  simp
theorem mix_same {L1 L2 : List En} {n j : Nat} (h1 : L1.length = n) (h2 : L2.length = n) (hj : j < n) {e : En} (he : L2[j]? = some e) (he1 : L1[j]? = some e) : mix L1 L2 j = mix L1 L2 (j + 1) := by
  rw [← mix_set h1 h2 hj he]
  have hg : (mix L1 L2 j)[j]? = some e := by
    unfold mix
    rw [List.getElem?_append_right (by simp; omega)]
    simp
    rw [show j + (j - min j L2.length) = j by omega]
    exact he1
  have hjl := (List.getElem?_eq_some_iff.1 hg).1
  have := (List.getElem?_eq_some_iff.1 hg).2
  rw [← this, List.set_getElem_self]
section
variable {w0 u : World} {x t base n : Nat} {st : Int} {V : List En} {K : List Bx}
/-- a row among one's own boxes -/
def RowIn (K : List Bx) (q : Nat) (l : List En) : Prop := ∃ cs : Array Value, (q, cs, 28) ∈ K ∧ cs.toList.take (l.length * 3) = flat eE l
theorem RowIn.rd {q : Nat} {l : List En} (h : RowIn K q l) (hb : AllB u K) : RdE u (some ⟨q, 0, none⟩) l := by
  obtain ⟨cs, h1, h2⟩ := h
  exact rdE_box (hb _ h1) h2
set_option maxRecDepth 100000 in
set_option maxHeartbeats 2000000 in
theorem twrite_at {q1 q2 c1 c2 : Nat} {L1 L2 : List En} (h : HasT mg w0 u x 1 V K) (ht : tb t x base n ∈ K) (hb : base + n ≤ V.length) (r1 : RowIn K q1 L1) (r2 : RowIn K q2 L2) (h1 : L1.length = n) (h2 : L2.length = n) (hs : seg V base n = L1) :
    Calls Tryz.prog 24 #[ptr t, .slice (some ⟨q1, 0, none⟩) n c1, .slice (some ⟨q2, 0, none⟩) n c2] u fun r w' => r = .returned (.int .i64 0) ∧ HasT mg w0 w' x 1 (lay V base L2) K := by
  have hv := h.len.2
  have hq := eql27
  have hgd := guardN27 .eql
  have HST : Hid (HasT mg w0 u x 1 (lay V base (mix L1 L2 0)) K) := by rw [mix_zero, ← hs, lay_seg hb]; exact h
  have hV63 : V.length ≤ 256 := hv
  clear h hs
  unfold ptr ag at *
  go_enter Tryz.func24, Tryz.ntmps24
  go_wp2_with fail
  go_loopw [12] (fun i v => ∃ j : Nat, j ≤ n ∧ i = .int .i64 (j : Int) ∧ Hid (HasT mg w0 v x 1 (lay V base (mix L1 L2 j)) K)) (fun i _ => n - (iof i).toNat)
  case atStart => exact ⟨0, Nat.zero_le _, by simp, HST.out⟩
  case round =>
    clear HST
    obtain ⟨j, hj, rfl, hrel⟩ := hrel
    by_cases hlt : j < n
    · have hki : (j : Int) < (n : Int) := by omega
      have hx1 := List.getElem?_eq_getElem (l := L1) (i := j) (by omega)
      have hx2 := List.getElem?_eq_getElem (l := L2) (i := j) (by omega)
      obtain ⟨e1, he1⟩ : ∃ e, e = L1[j]'(by omega) := ⟨_, rfl⟩
      obtain ⟨e2, he2⟩ : ∃ e, e = L2[j]'(by omega) := ⟨_, rfl⟩
      rw [← he1] at hx1
      rw [← he2] at hx2
      have h3 := hrel.out
      have hlen : (lay V base (mix L1 L2 j)).length = V.length := lay_len (by rw [mix_len h1 h2 hj]; exact hb)
      have h4 := h3.box #[.bool e2.u, .string e2.k, .string e2.v] 28
      obtain ⟨b2, o2, hbo, _, d0, d1, d2⟩ := (r2.rd h3.bK) j e2 hx2
      injection hbo with hbo
      injection hbo with hb1 hb2'
      subst hb1 hb2'
      obtain ⟨b1, o1, hbo, hbl, c0', c1', c2'⟩ := ((r1.rd h3.bK).below (((Below.refl _ wr).alloc (Nat.le_refl _) (.cells #[.bool e2.u, .string e2.k, .string e2.v] 28)))) j e1 hx1
      injection hbo with hbo
      injection hbo with hb1 hb2'
      subst hb1 hb2'
      simp only [Nat.zero_add] at d0 d1 d2 c0' c1' c2'
      have hqq := fun u => hq u e2 e1
      by_cases hE : e2 = e1
      · have hd : decide (e2 = e1) = true := decide_eq_true hE
        rw [hd] at hqq
        have H5 : Hid (∀ q, HasT mg w0 ((wr.alloc (.cells #[.bool e2.u, .string e2.k, .string e2.v] 28)).drewN q) x 1 (lay V base (mix L1 L2 (j + 1))) K) := fun q => by
          rw [← mix_same h1 h2 hlt hx2 (by rw [hx1, hE])]
          exact (h4.below (u' := (wr.alloc (.cells #[.bool e2.u, .string e2.k, .string e2.v] 28)).drewN q) ⟨rfl, rfl, rfl, Nat.le_refl _, fun _ _ => rfl⟩).less (fun y hy => List.mem_cons_of_mem _ hy)
        obtain ⟨eu, ek, ev⟩ := e1
        obtain ⟨fu, fk, fv⟩ := e2
        simp only at *
        clear h3 h4 hrel hx1 hx2 he1 he2 hd hE hq hbl
        go_wp2_with fail
        go_quiet (fail)
        go_wp2_with fail
        go_roundw
        case rel => exact ⟨j + 1, by omega, by simp, H5.out _⟩
        case measure => simp only [iof]; omega
      · have hd : decide (e2 = e1) = false := decide_eq_false hE
        rw [hd] at hqq
        have hT : tb t x base n ∈ ((wr.heap.size, #[.bool e2.u, .string e2.k, .string e2.v], 28) :: K) := List.mem_cons_of_mem _ ht
        have HW : Hid (∀ q, HasT mg w0 ((wr.alloc (.cells #[.bool e2.u, .string e2.k, .string e2.v] 28)).drewN q) x 1 (lay V base (mix L1 L2 j)) ((wr.heap.size, #[.bool e2.u, .string e2.k, .string e2.v], 28) :: K)) := fun q => h4.below (u' := (wr.alloc (.cells #[.bool e2.u, .string e2.k, .string e2.v] 28)).drewN q) ⟨rfl, rfl, rfl, Nat.le_refl _, fun _ _ => rfl⟩
        have HK : Hid (∀ v V', HasT mg w0 v x 1 V' ((wr.heap.size, #[.bool e2.u, .string e2.k, .string e2.v], 28) :: K) → v.cell? ⟨t, 1, none⟩ = some (.pointer (some ⟨x, 0, none⟩)) ∧ v.cell? ⟨t, 2, none⟩ = some (.int .i64 (base : Int)) ∧ v.cell? ⟨wr.heap.size, 0, none⟩ = some (.bool e2.u) ∧ v.cell? ⟨wr.heap.size, 1, none⟩ = some (.string e2.k) ∧ v.cell? ⟨wr.heap.size, 2, none⟩ = some (.string e2.v)) := fun v V' hv =>
          ⟨(hv.bK _ hT).cell 1, (hv.bK _ hT).cell 2, hv.bK.one.cell 0, hv.bK.one.cell 1, hv.bK.one.cell 2⟩
        have HWR : Hid (∀ q, Calls Tryz.prog 43 #[ptr x, .int .i64 ((base : Int) + (j : Int)), ag e2] ((wr.alloc (.cells #[.bool e2.u, .string e2.k, .string e2.v] 28)).drewN q) fun r w' => r = .returned (.int .i64 0) ∧ HasT mg w0 w' x 1 (lay V base (mix L1 L2 (j + 1))) ((wr.heap.size, #[.bool e2.u, .string e2.k, .string e2.v], 28) :: K)) := fun q => by
          have := (HW.out q).write (j := base + j) (by rw [hlen]; omega) e2
          rw [lay_set (by omega) (by rw [mix_len h1 h2 hj]; exact hlt), mix_set h1 h2 hlt hx2, show ((base + j : Nat) : Int) = (base : Int) + (j : Int) by omega] at this
          exact this
        have rw1 : IntKind.i64.wrap ((base : Int) + (j : Int)) = (base : Int) + (j : Int) := by rw [IntKind.wrap_i64]; omega
        obtain ⟨eu, ek, ev⟩ := e1
        obtain ⟨fu, fk, fv⟩ := e2
        simp only at *
        clear h3 h4 hrel hx1 hx2 he1 he2 hd hE hq hbl hlen
        unfold ptr ag at *
        go_wp2_with fail
        go_quiet (fail)
        obtain ⟨wq, hwq⟩ : ∃ wq, wq = (wr.alloc (.cells #[.bool fu, .string fk, .string fv] 28)).drewN nq := ⟨_, rfl⟩
        have k := HK.out _ _ (HW.out nq)
        have cw := fun q => (HWR.out (nq + q))
        rw [← hwq] at k ⊢
        obtain ⟨k1, k2, k3, k4, k5⟩ := k
        have cw1 := HWR.out (nq + 1)
        have hw2 : (wr.alloc (.cells #[.bool fu, .string fk, .string fv] 28)).drewN (nq + 1) = wq.drew := by rw [hwq]; rfl
        rw [hw2] at cw1
        clear cw hwq hw2 d0 d1 d2 c0' c1' c2' HWR HW
        go_wp2_with fail
        go_region_held3 (fun v => v.cell? ⟨t, 1, none⟩ = some (.pointer (some ⟨x, 0, none⟩)) ∧ v.cell? ⟨t, 2, none⟩ = some (.int .i64 (base : Int)) ∧ v.cell? ⟨wr.heap.size, 0, none⟩ = some (.bool fu) ∧ v.cell? ⟨wr.heap.size, 1, none⟩ = some (.string fk) ∧ v.cell? ⟨wr.heap.size, 2, none⟩ = some (.string fv)) (first | with_reducible exact HK.out _ _ h5 | go_keep) ((go_at_call 43; with_reducible refine Calls.mono cw1 ?_; rintro e w5 ⟨rfl, h5⟩))
        have H5 := hid (h5.less (K' := K) (fun y hy => List.mem_cons_of_mem _ hy))
        clear h5 HK cw1 k1 k2 k3 k4 k5
        go_wp2_with fail
        go_roundw
        case rel => exact ⟨j + 1, by omega, by simp, H5.out⟩
        case measure => simp only [iof]; omega
    · have hki : ¬ (j : Int) < (n : Int) := by omega
      obtain rfl : j = n := by omega
      have h3 := hrel.out
      rw [mix_all h1 h2] at h3
      have H3 := hid h3
      clear hrel h3
      go_wp2_with fail
      go_ret
      exact ⟨rfl, H3.out⟩
end
end Go.Proofs.YtlbjalodjcajfaaGreat
