/-
  A table's read: all its cells, rising.
-/
import Derived.Test.YtlbjalodjcajfaaGreatFnd
namespace Go.Proofs.YtlbjalodjcajfaaGreat
open Go.RowKit Go.Maps
variable {mg : MG}
def tb (t x base n : Nat) : Bx := (t, #[ptr t, ptr x, .int .i64 (base : Int), .int .i64 (n : Int)], 65)
theorem infoB : (Tryz.prog.info? 65).map (fun i => (i.zero.isSome, i.size)) = some (true, 4) := by kernel_rfl
theorem poinB : Tryz.prog.underlying 33 = some (.pointer 65) := by kernel_rfl
theorem eqlB (g : Nat) (w : World) : (binOp .eql 33 (.pointer (some ⟨g, 0, none⟩)) (.pointer (some ⟨g, 0, none⟩))).run Tryz.prog w = .ok (.bool true) w := by
  cases h : Tryz.prog.info? 65 with
  | none => have := infoB; rw [h] at this; cases this
  | some i => exact run_eql_ptr_same w ⟨g, 0, none⟩ poinB h
theorem eqlBn (g : Nat) (w : World) : (binOp .eql 33 (.pointer none) (.pointer (some ⟨g, 0, none⟩))).run Tryz.prog w = .ok (.bool false) w := by
  have h : ∀ d : Nat, (Op.equalIn (d + 1) 33 (.pointer none) (.pointer (some ⟨g, 0, none⟩))).run Tryz.prog w = .ok false w := fun d => by
    simp [Op.equalIn, run_underlying poinB]
  simp only [binOp]
  simp [Op.equal, Op.maxDepth, h]
theorem madeB {w : World} {m : Nat} {a b c : Value} (h : Box w m #[ptr m, a, b, c] 65) : Calls Tryz.prog 39 #[ptr m] w fun r w' => r = .returned (.bool true) ∧ w' = w := by
  have c0 : w.cell? ⟨m, 0, none⟩ = some (ptr m) := h.cell 0
  unfold ptr at *
  have he := eqlB m
  go_enter Tryz.func39, Tryz.ntmps39
  go_wp2
  go_ret
  simp
/-- no table -/
def NoB (w : World) (p : Option Addr) : Prop := Calls Tryz.prog 39 #[.pointer p] w fun r w' => r = .returned (.bool false) ∧ w' = w
theorem noB_nil (w : World) : NoB w none := by
  unfold NoB
  go_enter Tryz.func39, Tryz.ntmps39
  go_wp2
  go_ret
  simp
theorem noB_zero {w : World} {m : Nat} {a b c : Value} (h : Box w m #[.pointer none, a, b, c] 65) : NoB w (some ⟨m, 0, none⟩) := by
  have c0 : w.cell? ⟨m, 0, none⟩ = some (.pointer none) := h.cell 0
  have he := eqlBn m
  unfold NoB
  go_enter Tryz.func39, Tryz.ntmps39
  go_wp2
  go_ret
  simp
theorem read_none {w : World} {p : Option Addr} (h : NoB w p) : Calls Tryz.prog 20 #[.pointer p] w fun r w' => r = .returned (.tuple #[.slice none 0 0, .int .i64 1]) ∧ w' = w := by
  unfold NoB at h
  go_enter Tryz.func20, Tryz.ntmps20
  go_wp2_with (go_at_call 39; refine h.mono ?_; rintro e wx ⟨rfl, hwx⟩; subst wx)
  go_ret2
  simp
section
variable {w0 u : World} {x t base n : Nat} {st : Int} {V : List En} {K : List Bx}
theorem HasT.putRow {q : Nat} {l : List En} (h : HasT mg w0 u x st V ((q, (flat eE l).toArray, 28) :: K)) (hq : ∀ y ∈ K, y.1 ≠ q) (hB : w0.heap.size ≤ q) {i : Nat} (hi : i < l.length) (e : En) : HasT mg w0 (((u.setCell ⟨q, i * 3, none⟩ (.bool e.u)).setCell ⟨q, i * 3 + 1, none⟩ (.string e.k)).setCell ⟨q, i * 3 + 2, none⟩ (.string e.v)) x st V ((q, (flat eE (l.set i e)).toArray, 28) :: K) := by
  have := ((h.put hq hB (i * 3) (.bool e.u)).put hq hB (i * 3 + 1) (.string e.k)).put hq hB (i * 3 + 2) (.string e.v)
  rw [List.setIfInBounds_toArray, List.setIfInBounds_toArray, List.setIfInBounds_toArray] at this
  rw [← flat_set eE hi e]
  exact this
theorem HasT.low (h : HasT mg w0 u x st V K) : w0.heap.size ≤ u.heap.size := h.bel.size
theorem HasT.lt (h : HasT mg w0 u x st V K) {y : Bx} (hy : y ∈ K) : y.1 < u.heap.size := (h.bK y hy).lt
theorem infoE : (Tryz.prog.info? 28).map (fun i => (i.zero, i.size, i.bytes)) = some (some (.agg #[.bool false, .string ⟨#[]⟩, .string ⟨#[]⟩]), 3, 40) := by kernel_rfl
theorem make_ents (n : Nat) (hn : n ≤ 1024) (u : World) : (Instr.makeSlice 42 (.int .i64 (n : Int)) (.int .i64 (n : Int))).run Tryz.prog u = .ok (.slice (some ⟨u.heap.size, 0, none⟩) n n) (u.alloc (.cells (flat eE (List.replicate n E0)).toArray 28)) := by
  obtain ⟨i0, hi, hz0, hz1, hz2⟩ := info_parts infoE
  have h := run_make (P := Tryz.prog) u 42 28 i0 (.agg #[.bool false, .string ⟨#[]⟩, .string ⟨#[]⟩]) Tryz.underlying42 hi hz0 .i64 .i64 (n : Int) (n : Int) (by omega) (Int.le_refl _) (by rw [hz2]; omega) (by omega)
  have e : ((n : Int)).toNat = n := by omega
  rw [e, hz1] at h
  rw [← flat_made]
  exact h
/-- the table's cells -/
def seg (V : List En) (base n : Nat) : List En := (V.drop base).take n
theorem seg_len (hb : base + n ≤ V.length) : (seg V base n).length = n := by unfold seg; simp; omega
theorem seg_get {j : Nat} (hj : j < n) : (seg V base n)[j]? = V[base + j]? := by
  unfold seg
  rw [List.getElem?_take, if_pos hj, List.getElem?_drop]
/-- what was read so far -/
def upto (L : List En) (n j : Nat) : List En := L.take j ++ List.replicate (n - j) E0
theorem upto_zero (L : List En) (n : Nat) : upto L n 0 = List.replicate n E0 := by simp [upto]
theorem upto_len {L : List En} {n j : Nat} (hl : L.length = n) (hj : j ≤ n) : (upto L n j).length = n := by unfold upto; simp; omega
theorem upto_all {L : List En} {n : Nat} (hl : L.length = n) : upto L n n = L := by unfold upto; rw [← hl]; simp
theorem upto_set {L : List En} {n j : Nat} (hl : L.length = n) (hj : j < n) {e : En} (he : L[j]? = some e) : (upto L n j).set j e = upto L n (j + 1) := by
  unfold upto
  have h1 : (L.take j).length = j := by simp; omega
  rw [List.set_append_right _ _ (by omega), h1, Nat.sub_self]
  obtain ⟨d, hd⟩ : ∃ d, n - j = d + 1 := ⟨n - j - 1, by omega⟩
  rw [hd, show n - (j + 1) = d by omega, List.replicate_succ, List.set_cons_zero, List.take_add_one, he]
  simp
/-- what a table's read answers -/
def rdv (z : Bool) (q n : Nat) : Value := match z with
  | true => .tuple #[.slice (some ⟨q, 0, none⟩) n n, .int .i64 0]
  | false => .tuple #[.slice none 0 0, .int .i64 241]
set_option maxRecDepth 100000 in
set_option maxHeartbeats 2000000 in
theorem tread_at (h : HasT mg w0 u x 1 V K) (ht : tb t x base n ∈ K) (h1 : 1 ≤ n) (hb : base + n ≤ V.length) :
    Calls Tryz.prog 20 #[ptr t] u fun r w' => ∃ q, u.heap.size ≤ q ∧ r = .returned (rdv (Rgt (seg V base n)) q n) ∧ HasT mg w0 w' x 1 V ((q, (flat eE (seg V base n)).toArray, 28) :: K) := by
  have hV := h.len
  have hn : n ≤ 1024 := by omega
  have cb := madeB (h.bK _ ht)
  have mk := make_ents n hn
  have h2 := h.box (flat eE (List.replicate n E0)).toArray 28
  have c3 : u.cell? ⟨t, 3, none⟩ = some (.int .i64 (n : Int)) := (h.bK _ ht).cell 3
  obtain ⟨Z, hZ⟩ : ∃ Z, Z = (flat eE (List.replicate n E0)).toArray := ⟨_, rfl⟩
  rw [← hZ] at mk h2
  have hq : ∀ y ∈ K, y.1 ≠ u.heap.size := fun y hy e => by have := h.lt hy; omega
  have hB := h.low
  have H2 := hid (And.intro h2 hZ)
  obtain ⟨q, hqe⟩ : ∃ q, q = u.heap.size := ⟨_, rfl⟩
  have hn63 : (n : Int) ≤ 9223372036854775807 := by omega
  have hV2 := hV.2
  clear h h2 hZ hV
  unfold ptr at cb
  unfold ptr
  go_enter Tryz.func20, Tryz.ntmps20
  go_wp2_with (go_at_call 39; refine cb.mono ?_; rintro e wx ⟨rfl, hwx⟩; subst wx)
  rw [← hqe] at H2 hq hB ⊢
  have HST : Hid (HasT mg w0 (u.alloc (.cells Z 28)) x 1 V ((q, (flat eE (upto (seg V base n) n 0)).toArray, 28) :: K)) := by
    rw [upto_zero, ← H2.out.2]; exact H2.out.1
  have HQE := hid hqe
  clear H2 cb c3 mk hqe
  go_loopw [18] (fun i v => ∃ j : Nat, j ≤ n ∧ i = .int .i64 (j : Int) ∧ Hid (HasT mg w0 v x 1 V ((q, (flat eE (upto (seg V base n) n j)).toArray, 28) :: K))) (fun i _ => n - (iof i).toNat)
  case atStart => exact ⟨0, Nat.zero_le _, by simp, HST.out⟩
  case round =>
    clear HST
    obtain ⟨j, hj, rfl, hrel⟩ := hrel
    by_cases hlt : j < n
    · have hki : (j : Int) < (n : Int) := by omega
      have hvb : base + j < V.length := by omega
      have hx := List.getElem?_eq_getElem hvb
      obtain ⟨e, hee⟩ : ∃ e, e = V[base + j] := ⟨_, rfl⟩
      rw [← hee] at hx
      have h3 := hrel.out
      have hT : tb t x base n ∈ ((q, (flat eE (upto (seg V base n) n j)).toArray, 28) :: K) := List.mem_cons_of_mem _ ht
      have d1 : wr.cell? ⟨t, 1, none⟩ = some (.pointer (some ⟨x, 0, none⟩)) := (h3.bK _ hT).cell 1
      have d2 : wr.cell? ⟨t, 2, none⟩ = some (.int .i64 (base : Int)) := (h3.bK _ hT).cell 2
      have h4 := h3.below (u' := wr.drew) ⟨rfl, rfl, rfl, Nat.le_refl _, fun _ _ => rfl⟩
      have cr := h4.read hx
      rw [show ((base + j : Nat) : Int) = (base : Int) + (j : Int) by omega] at cr
      have rw1 : IntKind.i64.wrap ((base : Int) + (j : Int)) = (base : Int) + (j : Int) := by rw [IntKind.wrap_i64]; omega
      have HK : Hid (∀ v, HasT mg w0 v x 1 V ((q, (flat eE (upto (seg V base n) n j)).toArray, 28) :: K) → (v.cell? ⟨t, 1, none⟩ = some (.pointer (some ⟨x, 0, none⟩)) ∧ v.cell? ⟨t, 2, none⟩ = some (.int .i64 (base : Int))) ∧ ∀ o : Obj, (v.alloc o).cell? ⟨t, 1, none⟩ = some (.pointer (some ⟨x, 0, none⟩)) ∧ (v.alloc o).cell? ⟨t, 2, none⟩ = some (.int .i64 (base : Int))) := fun v hv =>
        ⟨⟨(hv.bK _ hT).cell 1, (hv.bK _ hT).cell 2⟩, fun o => ⟨((hv.bK _ hT).alloc o).cell 1, ((hv.bK _ hT).alloc o).cell 2⟩⟩
      have HX := hid hx
      have h6 := (h3.box zs 28).below (u' := (wr.alloc (.cells zs 28)).drew) ⟨rfl, rfl, rfl, Nat.le_refl _, fun _ _ => rfl⟩
      have cr2 := h6.read hx
      rw [show ((base + j : Nat) : Int) = (base : Int) + (j : Int) by omega] at cr2
      have HK2 : Hid (∀ v, HasT mg w0 v x 1 V ((wr.heap.size, zs, 28) :: (q, (flat eE (upto (seg V base n) n j)).toArray, 28) :: K) → ((v.cell? ⟨wr.heap.size, 0, none⟩ = some (.bool false) ∧ v.cell? ⟨wr.heap.size, 1, none⟩ = some (.string ⟨#[]⟩) ∧ v.cell? ⟨wr.heap.size, 2, none⟩ = some (.string ⟨#[]⟩)) ∧ (∀ k, v.frozen? ⟨wr.heap.size, k, none⟩ = false)) ∧ (v.cell? ⟨t, 1, none⟩ = some (.pointer (some ⟨x, 0, none⟩)) ∧ v.cell? ⟨t, 2, none⟩ = some (.int .i64 (base : Int))) ∧ ((((v.setCell ⟨wr.heap.size, 0, none⟩ (.bool e.u)).setCell ⟨wr.heap.size, 1, none⟩ (.string e.k)).setCell ⟨wr.heap.size, 2, none⟩ (.string e.v)).cell? ⟨t, 1, none⟩ = some (.pointer (some ⟨x, 0, none⟩)) ∧ (((v.setCell ⟨wr.heap.size, 0, none⟩ (.bool e.u)).setCell ⟨wr.heap.size, 1, none⟩ (.string e.k)).setCell ⟨wr.heap.size, 2, none⟩ (.string e.v)).cell? ⟨t, 2, none⟩ = some (.int .i64 (base : Int))) ∧ HasT mg w0 (((v.setCell ⟨wr.heap.size, 0, none⟩ (.bool e.u)).setCell ⟨wr.heap.size, 1, none⟩ (.string e.k)).setCell ⟨wr.heap.size, 2, none⟩ (.string e.v)) x 1 V ((wr.heap.size, #[.bool e.u, .string e.k, .string e.v], 28) :: (q, (flat eE (upto (seg V base n) n j)).toArray, 28) :: K)) := fun v hv => by
        have b1 := hv.bK.one
        have hT2 : tb t x base n ∈ ((wr.heap.size, zs, 28) :: (q, (flat eE (upto (seg V base n) n j)).toArray, 28) :: K) := List.mem_cons_of_mem _ hT
        have hp : ∀ y ∈ ((q, (flat eE (upto (seg V base n) n j)).toArray, (28 : TypeId)) :: K), y.1 ≠ wr.heap.size := fun y hy e => by have := h3.lt hy; omega
        have hv2 := ((hv.put hp h3.low 0 (.bool e.u)).put hp h3.low 1 (.string e.k)).put hp h3.low 2 (.string e.v)
        have hT3 : tb t x base n ∈ ((wr.heap.size, #[.bool e.u, .string e.k, .string e.v], 28) :: (q, (flat eE (upto (seg V base n) n j)).toArray, 28) :: K) := List.mem_cons_of_mem _ hT
        exact ⟨⟨⟨b1.cell 0, b1.cell 1, b1.cell 2⟩, b1.frozen⟩, ⟨(hv.bK _ hT2).cell 1, (hv.bK _ hT2).cell 2⟩, ⟨(hv2.bK _ hT3).cell 1, (hv2.bK _ hT3).cell 2⟩, hv2⟩
      have HBX : Hid (∀ v, HasT mg w0 v x 1 V ((q, (flat eE (upto (seg V base n) n j)).toArray, 28) :: K) → ∀ cs, HasT mg w0 (v.alloc (.cells cs 28)) x 1 V ((v.heap.size, cs, 28) :: (q, (flat eE (upto (seg V base n) n j)).toArray, 28) :: K)) := fun v hv cs => hv.box cs 28
      have HA0 := HK2.out
      obtain ⟨eu, ek, ev⟩ := e
      simp only at HA0
      clear h3 h4 h6 hrel hee HK2
      have HA := hid HA0
      clear HA0
      unfold ptr ag at cr cr2
      go_upto_region 7 with fail
      go_cut [6, 7] from 21 to 34 (fun v6 v7 v => ∃ b6, v6 = .pointer (some ⟨b6, 0, none⟩) ∧ v7 = .int .i64 0 ∧ HasT mg w0 v x 1 V ((b6, #[.bool eu, .string ek, .string ev], 28) :: (q, (flat eE (upto (seg V base n) n j)).toArray, 28) :: K))
      case first =>
        go_region_held3 (fun v => v.cell? ⟨t, 1, none⟩ = some (.pointer (some ⟨x, 0, none⟩)) ∧ v.cell? ⟨t, 2, none⟩ = some (.int .i64 (base : Int))) (first | with_reducible exact (HK.out _ h5).1 | with_reducible exact (HK.out _ h5).2 _ | with_reducible exact (HA.out _ h5).2.1 | with_reducible exact (HA.out _ h5).2.2.1 | go_keep) (first | (go_at_call 35; with_reducible refine Calls.mono cr ?_; rintro e w5 ⟨rfl, h5⟩) | (go_at_call 35; with_reducible refine Calls.mono cr2 ?_; rintro e w5 ⟨rfl, h5⟩; have hh := (HA.out _ h5).1; obtain ⟨⟨z0, z1, z2⟩, zf⟩ := hh))
        all_goals go_wp2_with fail
        all_goals (go_meet; case rel => first | exact ⟨_, rfl, rfl, HBX.out _ h5 _⟩ | exact ⟨_, rfl, rfl, (HA.out _ h5).2.2.2⟩)
      case rest =>
        obtain ⟨b6, rfl, rfl, h5⟩ := hcut
        have hb6 := h5.bK.one
        have l0 : wc.cell? ⟨b6, 0, none⟩ = some (.bool eu) := hb6.cell 0
        have l1 : wc.cell? ⟨b6, 1, none⟩ = some (.string ek) := hb6.cell 1
        have l2 : wc.cell? ⟨b6, 2, none⟩ = some (.string ev) := hb6.cell 2
        have h7 := h5.less (K' := (q, (flat eE (upto (seg V base n) n j)).toArray, 28) :: K) (fun y hy => List.mem_cons_of_mem _ hy)
        have hrow := h7.bK.one
        have hul := upto_len (L := seg V base n) (seg_len hb) (Nat.le_of_lt hlt)
        have hjl : j < (upto (seg V base n) n j).length := by rw [hul]; exact hlt
        obtain ⟨y, hy⟩ : ∃ y, (upto (seg V base n) n j)[j]? = some y := ⟨_, List.getElem?_eq_getElem hjl⟩
        obtain ⟨g0, g1, g2⟩ := flat_get eE hy
        have m0 : wc.cell? ⟨q, j * 3, none⟩ = some (.bool y.u) := by rw [hrow.cell]; simpa [eE] using g0
        have m1 : wc.cell? ⟨q, j * 3 + 1, none⟩ = some (.string y.k) := by rw [hrow.cell]; simpa [eE] using g1
        have m2 : wc.cell? ⟨q, j * 3 + 2, none⟩ = some (.string y.v) := by rw [hrow.cell]; simpa [eE] using g2
        have f0 := hrow.frozen (j * 3)
        have f1 := hrow.frozen (j * 3 + 1)
        have f2 := hrow.frozen (j * 3 + 2)
        have h8 := h7.putRow hq (by omega) hjl ⟨eu, ek, ev⟩
        rw [upto_set (seg_len hb) hlt (by rw [seg_get hlt]; exact HX.out)] at h8
        have H8 := hid h8
        clear h5 h7 h8 hrow hb6 hul hy g0 g1 g2 HX HA HBX HK hjl
        go_wp2_with fail
        go_roundw
        case rel => exact ⟨j + 1, by omega, by simp, H8.out⟩
        case measure => simp only [iof]; omega
    · have hki : ¬ (j : Int) < (n : Int) := by omega
      obtain rfl : j = n := by omega
      have h3 := hrel.out
      rw [upto_all (seg_len hb)] at h3
      have hsl := seg_len hb
      have cr := right_at (c := j) (rdE_flat h3.bK.one) hsl (by omega)
      have H3 := hid h3
      clear hrel h3 hsl
      obtain ⟨z, hz⟩ : ∃ z, z = Rgt (seg V base j) := ⟨_, rfl⟩
      rw [← hz] at cr
      have HZ := hid hz
      clear hz
      go_wp2_with fail
      with_reducible refine Calls.mono cr ?_
      rintro e w5 ⟨rfl, hb5⟩
      have H5 := hid (H3.out.below hb5)
      clear cr hb5 H3
      cases z with
      | true =>
        go_wp2_with fail
        go_ret2
        exact ⟨q, by rw [HQE.out]; exact Nat.le_refl _, by rw [← HZ.out]; rfl, H5.out⟩
      | false =>
        go_wp2_with fail
        go_ret2
        exact ⟨q, by rw [HQE.out]; exact Nat.le_refl _, by rw [← HZ.out]; rfl, H5.out⟩
end
end Go.Proofs.YtlbjalodjcajfaaGreat
