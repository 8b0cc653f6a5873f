/-
  SetsTells' walk.
-/
import Derived.Test.YtdneikfocefnfaaTellM
import Derived.Test.YtdneikfocefnfaaArgsW
import Derived.Deep.Cut
import Derived.Deep.CutBlock
namespace Go.Proofs.Ytdneikfocefnfaa
open Go.RowKit
theorem idx0 (x y : Value) (u : World) : (Instr.index 39 (.agg #[x, y]) (.int .i64 0)).run Try.prog u = .ok x u := by
  simp [Instr.index, go_sem]
theorem idx1 (x y : Value) (u : World) : (Instr.index 39 (.agg #[x, y]) (.int .i64 1)).run Try.prog u = .ok y u := by
  simp [Instr.index, go_sem]
def TR (w u : World) (B g r b : Nat) (c0 : Array Value) (v7 v8 : Value) : Prop := ∃ S d, v7 = .int .i64 d ∧ v8 = .int .i64 d ∧ Mb u B g r S S b c0 ∧ Below B w u
/-- two rows that nobody else has, while they are spoilt -/
def Sp (w0 u : World) (a : Option Addr) (n c : Nat) : Prop := ∃ xs, u.ownsRow w0.heap.size 3 1 (.slice a n c) n xs
theorem Sp.get {w0 u : World} {a : Option Addr} {n c : Nat} (h : Sp w0 u a n c) (k : Nat) (hk : k < n) : ∃ q z, a = some ⟨q, 0, none⟩ ∧ w0.heap.size ≤ q ∧ u.cell? ⟨q, k, none⟩ = some z ∧ u.frozen? ⟨q, k, none⟩ = false ∧ ∃ cs, Box u q cs 3 := by
  obtain ⟨xs, h⟩ := h
  have hl := h.1
  rcases h.2 with ⟨_, e⟩ | ⟨q, cap, cur, e, a1, a2, a3, a4, a5, a6⟩
  · omega
  · injection e with e
    have hk2 : k < cur.size := by omega
    exact ⟨q, cur[k], e, a1, by rw [Box.cell a2]; exact Array.getElem?_eq_getElem hk2, Box.frozen a2 k, cur, a2⟩
theorem Sp.store {w0 u : World} {a : Option Addr} {n c q k : Nat} {v : Value} {cs : Array Value} (h : Sp w0 u a n c) (hb : Box u q cs 3) : Sp w0 (u.setCell ⟨q, k, none⟩ v) a n c := by
  obtain ⟨xs, h⟩ := h
  rcases h.2 with ⟨e, e0⟩ | ⟨q', cap, cur, e, a1, a2, a3, a4, a5, a6⟩
  · exact ⟨xs, h.1, .inl ⟨e, e0⟩⟩
  · by_cases hq : q' = q
    · subst hq
      have b := Box.store a2 k v
      refine ⟨(cur.setIfInBounds k v).toList.take (n * 1), ?_, .inr ⟨q', cap, _, e, a1, b, a3, a4, by simpa using a5, rfl⟩⟩
      rw [List.length_take]
      simp
      omega
    · exact ⟨xs, h.1, .inr ⟨q', cap, cur, e, a1, Box.other a2 q k v hq, a3, a4, a5, a6⟩⟩
theorem Sp.below {w0 u u' : World} {a : Option Addr} {n c : Nat} (h : Sp w0 u a n c) (hb : Below u.heap.size u u') : Sp w0 u' a n c := by
  obtain ⟨xs, h⟩ := h
  exact ⟨xs, ownsRow_below h hb.block⟩
theorem ownsRow_base1 {w : World} {B B' n : Nat} {e : TypeId} {v : Value} {xs : List Value} (h : w.ownsRow B' e 1 v n xs) (hB : B ≤ B') : w.ownsRow B e 1 v n xs := by
  refine ⟨h.1, ?_⟩
  rcases h.2 with h | ⟨g, cap, cur, rfl, hb, r⟩
  · exact .inl h
  · exact .inr ⟨g, cap, cur, rfl, Nat.le_trans hB hb, r⟩
set_option maxRecDepth 2000000 in
set_option maxHeartbeats 16000000 in
theorem tellsL_at (a0 : Option Addr) (n0 c0 : Nat) (os : List Op4) (w : World) (hl : os.length = n0) (hr : RdOps w a0 os) (hwf : ∀ x ∈ os, (Lit.int .i64 x.i).wf = true) (hn : n0 ≤ 9223372036854775807) : Calls Try.prog 3 #[.slice a0 n0 c0] w fun r w' => r = .returned (.bool true) ∧ Below w.heap.size w w' := by
  obtain ⟨B, hB⟩ : ∃ B, B = w.heap.size := ⟨_, rfl⟩
  have cN := new_at w
  have HB : Hid (B = w.heap.size) := hB
  have HR : Hid (∀ (u : World), Below B w u → ∀ k, k < n0 → ∃ b o, ∃ x : Op4, a0 = some ⟨b, o, none⟩ ∧ u.cell? ⟨b, o + k * 4, none⟩ = some (.int .i64 x.kind) ∧ u.cell? ⟨b, o + k * 4 + 1, none⟩ = some (.int .i64 x.i) ∧ u.cell? ⟨b, o + k * 4 + 2, none⟩ = some (.int .i64 x.v) ∧ u.cell? ⟨b, o + k * 4 + 3, none⟩ = some (.int .i64 x.ver) ∧ (Lit.int .i64 x.i).wf = true) := fun u hu k hk => by
    rw [hB] at hu
    obtain ⟨b, o, e, hc⟩ := hr (by omega)
    obtain ⟨d0, d1, d2, d3⟩ := hc k (by omega)
    have hb : b < w.heap.size := block_lt_of_cell d0
    exact ⟨b, o, os[k], e, by rw [hu.cell (p := ⟨b, o + k * 4, none⟩) hb]; exact d0, by rw [hu.cell (p := ⟨b, o + k * 4 + 1, none⟩) hb]; exact d1, by rw [hu.cell (p := ⟨b, o + k * 4 + 2, none⟩) hb]; exact d2, by rw [hu.cell (p := ⟨b, o + k * 4 + 3, none⟩) hb]; exact d3, hwf _ (List.getElem_mem _)⟩
  clear hr hl hwf
  have hn' : (n0 : Int) ≤ 9223372036854775807 := by omega
  unfold ptr at *
  go_enter Try.func3, Try.ntmps3
  go_wp2_with fail
  refine Calls.mono cN ?_
  rintro e w1 ⟨g, rfl, _, i1, b1⟩
  have hM0 := mx_new i1 b1
  have hB2 : Below w.heap.size w (w1.alloc (.cells #[.slice none 0 0, .slice none 0 0, .slice none 0 0] 30)) := b1.alloc b1.size _
  rw [← hB] at hM0 hB2
  have HV : Hid (Mx (w1.alloc (.cells #[.slice none 0 0, .slice none 0 0, .slice none 0 0] 30)) B g w1.heap.size ⟨[], [], []⟩ ⟨[], [], []⟩ ∧ Below B w (w1.alloc (.cells #[.slice none 0 0, .slice none 0 0, .slice none 0 0] 30))) := ⟨hM0, hB2⟩
  clear cN b1 i1 hB hM0 hB2
  unfold ptr at *
  go_wp2_with fail
  obtain ⟨r, hr⟩ : ∃ r, r = w1.heap.size := ⟨_, rfl⟩
  rw [← hr] at HV ⊢
  clear hr
  go_loopw [5] (fun i u => ∃ k : Nat, k ≤ 600 ∧ k ≤ n0 ∧ i = .int .i64 (k : Int) ∧ (∃ S, Mx u B g r S S) ∧ Below B w u) (fun i _ => 600 - (iv i).toNat)
  case atStart => exact ⟨0, by omega, by omega, rfl, ⟨_, HV.out.1⟩, HV.out.2⟩
  case round =>
    obtain ⟨k, hk200, hkn, rfl, ⟨S, hV⟩, hb⟩ := hrel
    obtain ⟨wa, hwa⟩ : ∃ wa, wa = wr := ⟨_, rfl⟩
    subst hwa
    have HVa : Hid (Mx wa B g r S S) := hV
    have HBa : Hid (Below B w wa) := hb
    clear HV
    by_cases hgo : k < n0 ∧ k < 600
    · obtain ⟨hg1, hg2⟩ := hgo
      have hi1 : (k : Int) < (n0 : Int) := by omega
      have hi2 : (k : Int) < 600 := by omega
      obtain ⟨b0, o, x, rfl, x0, x1, x2, x3, xwf⟩ := HR.out wa hb k hg1
      obtain ⟨b, hob⟩ : ∃ b, b = wa.heap.size := ⟨_, rfl⟩
      have Hob : Hid (b = wa.heap.size) := hob
      have hM := hV.box #[.int .i64 x.kind, .int .i64 x.i, .int .i64 x.v, .int .i64 x.ver]
      have hbl := (Below.refl wa.heap.size wa).alloc (Nat.le_refl _) (.cells #[.int .i64 x.kind, .int .i64 x.i, .int .i64 x.v, .int .i64 x.ver] 32)
      rw [← hob] at hM
      obtain ⟨wb, hwb⟩ : ∃ wb, wb = wa.alloc (.cells #[.int .i64 x.kind, .int .i64 x.i, .int .i64 x.v, .int .i64 x.ver] 32) := ⟨_, rfl⟩
      have Hwb : Hid (wb = wa.alloc (.cells #[.int .i64 x.kind, .int .i64 x.i, .int .i64 x.v, .int .i64 x.ver] 32)) := hwb
      rw [← hwb] at hbl hM
      have HBb : Hid (Below B w wb) := hb.trans (hbl.mono hV.hB)
      have HVb : Hid (Mb wb B g r S S b #[.int .i64 x.kind, .int .i64 x.i, .int .i64 x.v, .int .i64 x.ver]) := hM
      have d0 : wb.cell? ⟨b, 0, none⟩ = some (.int .i64 x.kind) := hM.cell 0
      have d1 : wb.cell? ⟨b, 1, none⟩ = some (.int .i64 x.i) := hM.cell 1
      have d2 : wb.cell? ⟨b, 2, none⟩ = some (.int .i64 x.v) := hM.cell 2
      have d3 : wb.cell? ⟨b, 3, none⟩ = some (.int .i64 x.ver) := hM.cell 3
      have HWF : Hid ((Lit.int .i64 x.i).wf = true) := xwf
      clear hV hM hbl hb hob hwb HVa HBa xwf
      obtain ⟨xk, xi, xv, xn⟩ := x
      simp only at x0 x1 x2 x3 d0 d1 d2 d3 Hwb HVb HWF
      go_upto_region 9 with fail
      rw [← Hwb.out, ← Hob.out]
      clear x0 x1 x2 x3 Hwb Hob
      go_upto_block 2 with fail
      go_cut [7, 8, 10, 11] from 41 to 108 (fun v7 v8 _ _ u => TR w u B g r b #[.int .i64 xk, .int .i64 xi, .int .i64 xv, .int .i64 xn] v7 v8)
      case first =>
        by_cases k0 : xk = 0
        · as_aux_lemma =>
          subst k0
          have hnd := HVb.out.gd.2.nd
          have HD0 : Hid (Mb wb.drew B g r S S b #[.int .i64 0, .int .i64 xi, .int .i64 xv, .int .i64 xn]) := HVb.out.below ⟨rfl, rfl, rfl, Nat.le_refl _, fun _ _ => rfl⟩
          have C1 := HD0.out.read1 xi xn
          have C2 : Hid (∀ u, Mb u B g r (S.read xi xn).2 S b #[.int .i64 0, .int .i64 xi, .int .i64 xv, .int .i64 xn] → Calls Try.prog 9 #[.pointer (some ⟨r, 0, none⟩), .int .i64 xi, .int .i64 xn] u fun e u' => e = .returned (.int .i64 (S.read xi xn).1) ∧ Mb u' B g r (S.read xi xn).2 (S.read xi xn).2 b #[.int .i64 0, .int .i64 xi, .int .i64 xv, .int .i64 xn] ∧ Below B u u') := fun u hu => hu.read2 xi xn
          have HK : Hid (∀ u (S T : SS Int), Mb u B g r S T b #[.int .i64 0, .int .i64 xi, .int .i64 xv, .int .i64 xn] → u.cell? ⟨b, 1, none⟩ = some (.int .i64 xi) ∧ u.cell? ⟨b, 3, none⟩ = some (.int .i64 xn)) := fun u S T hu => ⟨hu.cell 1, hu.cell 3⟩
          unfold ptr at C1
          generalize (S.read xi xn) = D at *
          clear hnd HD0
          go_wp2_with fail
          go_region_held3 (fun u => u.cell? ⟨b, 1, none⟩ = some (.int .i64 xi) ∧ u.cell? ⟨b, 3, none⟩ = some (.int .i64 xn)) (first | with_reducible exact HK.out _ _ _ m2 | with_reducible exact HK.out _ _ _ m1 | go_keep) (first | (go_at_call 8; refine Calls.mono C1 ?_; rintro e v1 ⟨rfl, m1, b1⟩) | (go_at_call 9; refine Calls.mono (C2.out v1 m1) ?_; rintro e v2 ⟨rfl, m2, b2⟩))
          have HF : Hid (TR w v2 B g r b #[.int .i64 0, .int .i64 xi, .int .i64 xv, .int .i64 xn] (.int .i64 D.1) (.int .i64 D.1)) := ⟨_, _, rfl, rfl, m2, ((HBb.out.trans ⟨b1.os, b1.tape, b1.output, b1.size, b1.block⟩)).trans b2⟩
          clear C1 C2 m1 m2 b1 b2 HK
          go_wp2_with fail
          go_meet
          case rel => exact HF.out
        by_cases k1 : xk = 1
        · as_aux_lemma =>
          subst k1
          have hnd := HVb.out.gd.2.nd
          have HD0 : Hid (Mb wb.drew B g r S S b #[.int .i64 1, .int .i64 xi, .int .i64 xv, .int .i64 xn]) := HVb.out.below ⟨rfl, rfl, rfl, Nat.le_refl _, fun _ _ => rfl⟩
          have C1 := HD0.out.read1 xi xn
          have C2 : Hid (∀ u, Mb u B g r (S.read xi xn).2 S b #[.int .i64 1, .int .i64 xi, .int .i64 xv, .int .i64 xn] → Calls Try.prog 9 #[.pointer (some ⟨r, 0, none⟩), .int .i64 xi, .int .i64 xn] u fun e u' => e = .returned (.int .i64 (S.read xi xn).1) ∧ Mb u' B g r (S.read xi xn).2 (S.read xi xn).2 b #[.int .i64 1, .int .i64 xi, .int .i64 xv, .int .i64 xn] ∧ Below B u u') := fun u hu => hu.read2 xi xn
          have HK : Hid (∀ u (S T : SS Int), Mb u B g r S T b #[.int .i64 1, .int .i64 xi, .int .i64 xv, .int .i64 xn] → u.cell? ⟨b, 1, none⟩ = some (.int .i64 xi) ∧ u.cell? ⟨b, 3, none⟩ = some (.int .i64 xn)) := fun u S T hu => ⟨hu.cell 1, hu.cell 3⟩
          unfold ptr at C1
          generalize (S.read xi xn) = D at *
          clear hnd HD0
          go_wp2_with fail
          go_region_held3 (fun u => u.cell? ⟨b, 1, none⟩ = some (.int .i64 xi) ∧ u.cell? ⟨b, 3, none⟩ = some (.int .i64 xn)) (first | with_reducible exact HK.out _ _ _ m2 | with_reducible exact HK.out _ _ _ m1 | go_keep) (first | (go_at_call 8; refine Calls.mono C1 ?_; rintro e v1 ⟨rfl, m1, b1⟩) | (go_at_call 9; refine Calls.mono (C2.out v1 m1) ?_; rintro e v2 ⟨rfl, m2, b2⟩))
          have HF : Hid (TR w v2 B g r b #[.int .i64 1, .int .i64 xi, .int .i64 xv, .int .i64 xn] (.int .i64 D.1) (.int .i64 D.1)) := ⟨_, _, rfl, rfl, m2, ((HBb.out.trans ⟨b1.os, b1.tape, b1.output, b1.size, b1.block⟩)).trans b2⟩
          clear C1 C2 m1 m2 b1 b2 HK
          go_wp2_with fail
          go_meet
          case rel => exact HF.out
        by_cases k2 : xk = 2
        · as_aux_lemma =>
          subst k2
          have hnd := HVb.out.gd.2.nd
          have HD0 : Hid (Mb wb.drew B g r S S b #[.int .i64 2, .int .i64 xi, .int .i64 xv, .int .i64 xn]) := HVb.out.below ⟨rfl, rfl, rfl, Nat.le_refl _, fun _ _ => rfl⟩
          have C1 := HD0.out.write1 xi xv
          have C2 : Hid (∀ u, Mb u B g r (S.write xi xv).2 S b #[.int .i64 2, .int .i64 xi, .int .i64 xv, .int .i64 xn] → Calls Try.prog 11 #[.pointer (some ⟨r, 0, none⟩), .int .i64 xi, .int .i64 xv] u fun e u' => e = .returned (.int .i64 (S.write xi xv).1) ∧ Mb u' B g r (S.write xi xv).2 (S.write xi xv).2 b #[.int .i64 2, .int .i64 xi, .int .i64 xv, .int .i64 xn] ∧ Below B u u') := fun u hu => hu.write2 hnd xi xv
          have HK : Hid (∀ u (S T : SS Int), Mb u B g r S T b #[.int .i64 2, .int .i64 xi, .int .i64 xv, .int .i64 xn] → u.cell? ⟨b, 1, none⟩ = some (.int .i64 xi) ∧ u.cell? ⟨b, 2, none⟩ = some (.int .i64 xv)) := fun u S T hu => ⟨hu.cell 1, hu.cell 2⟩
          unfold ptr at C1
          generalize (S.write xi xv) = D at *
          clear hnd HD0
          go_wp2_with fail
          go_region_held3 (fun u => u.cell? ⟨b, 1, none⟩ = some (.int .i64 xi) ∧ u.cell? ⟨b, 2, none⟩ = some (.int .i64 xv)) (first | with_reducible exact HK.out _ _ _ m2 | with_reducible exact HK.out _ _ _ m1 | go_keep) (first | (go_at_call 10; refine Calls.mono C1 ?_; rintro e v1 ⟨rfl, m1, b1⟩) | (go_at_call 11; refine Calls.mono (C2.out v1 m1) ?_; rintro e v2 ⟨rfl, m2, b2⟩))
          have HF : Hid (TR w v2 B g r b #[.int .i64 2, .int .i64 xi, .int .i64 xv, .int .i64 xn] (.int .i64 D.1) (.int .i64 D.1)) := ⟨_, _, rfl, rfl, m2, ((HBb.out.trans ⟨b1.os, b1.tape, b1.output, b1.size, b1.block⟩)).trans b2⟩
          clear C1 C2 m1 m2 b1 b2 HK
          go_wp2_with fail
          go_meet
          case rel => exact HF.out
        by_cases k3 : xk = 3
        · as_aux_lemma =>
          subst k3
          have hnd := HVb.out.gd.2.nd
          have HD0 : Hid (Mb wb.drew B g r S S b #[.int .i64 3, .int .i64 xi, .int .i64 xv, .int .i64 xn]) := HVb.out.below ⟨rfl, rfl, rfl, Nat.le_refl _, fun _ _ => rfl⟩
          have C1 := HD0.out.write1 xi xv
          have C2 : Hid (∀ u, Mb u B g r (S.write xi xv).2 S b #[.int .i64 3, .int .i64 xi, .int .i64 xv, .int .i64 xn] → Calls Try.prog 11 #[.pointer (some ⟨r, 0, none⟩), .int .i64 xi, .int .i64 xv] u fun e u' => e = .returned (.int .i64 (S.write xi xv).1) ∧ Mb u' B g r (S.write xi xv).2 (S.write xi xv).2 b #[.int .i64 3, .int .i64 xi, .int .i64 xv, .int .i64 xn] ∧ Below B u u') := fun u hu => hu.write2 hnd xi xv
          have HK : Hid (∀ u (S T : SS Int), Mb u B g r S T b #[.int .i64 3, .int .i64 xi, .int .i64 xv, .int .i64 xn] → u.cell? ⟨b, 1, none⟩ = some (.int .i64 xi) ∧ u.cell? ⟨b, 2, none⟩ = some (.int .i64 xv)) := fun u S T hu => ⟨hu.cell 1, hu.cell 2⟩
          unfold ptr at C1
          generalize (S.write xi xv) = D at *
          clear hnd HD0
          go_wp2_with fail
          go_region_held3 (fun u => u.cell? ⟨b, 1, none⟩ = some (.int .i64 xi) ∧ u.cell? ⟨b, 2, none⟩ = some (.int .i64 xv)) (first | with_reducible exact HK.out _ _ _ m2 | with_reducible exact HK.out _ _ _ m1 | go_keep) (first | (go_at_call 10; refine Calls.mono C1 ?_; rintro e v1 ⟨rfl, m1, b1⟩) | (go_at_call 11; refine Calls.mono (C2.out v1 m1) ?_; rintro e v2 ⟨rfl, m2, b2⟩))
          have HF : Hid (TR w v2 B g r b #[.int .i64 3, .int .i64 xi, .int .i64 xv, .int .i64 xn] (.int .i64 D.1) (.int .i64 D.1)) := ⟨_, _, rfl, rfl, m2, ((HBb.out.trans ⟨b1.os, b1.tape, b1.output, b1.size, b1.block⟩)).trans b2⟩
          clear C1 C2 m1 m2 b1 b2 HK
          go_wp2_with fail
          go_meet
          case rel => exact HF.out
        by_cases k4 : xk = 4
        · as_aux_lemma =>
          subst k4
          have C1 := HVb.out.mark1
          unfold ptr at C1
          go_wp2_with fail
          refine Calls.mono C1 ?_
          rintro e v1 ⟨rfl, m1, b1⟩
          have C2 := m1.mark2
          have HB1 : Hid (Below B w v1) := HBb.out.trans b1
          unfold ptr at C2
          clear C1 b1 m1
          go_wp2_with fail
          refine Calls.mono C2 ?_
          rintro e v2 ⟨rfl, m2, b2⟩
          have HF : Hid (TR w v2 B g r b #[.int .i64 4, .int .i64 xi, .int .i64 xv, .int .i64 xn] (.int .i64 S.mark.1) (.int .i64 S.mark.1)) := ⟨_, _, rfl, rfl, m2, HB1.out.trans b2⟩
          clear C2 m2 b2
          go_wp2_with fail
          go_meet
          case rel => exact HF.out
        by_cases k5 : xk = 5
        · as_aux_lemma =>
          subst k5
          have C1 := HVb.out.keep1
          unfold ptr at C1
          go_wp2_with fail
          refine Calls.mono C1 ?_
          rintro e v1 ⟨rfl, m1, b1⟩
          have C2 := m1.keep2
          have HB1 : Hid (Below B w v1) := HBb.out.trans b1
          unfold ptr at C2
          clear C1 b1 m1
          go_wp2_with fail
          refine Calls.mono C2 ?_
          rintro e v2 ⟨rfl, m2, b2⟩
          have HF : Hid (TR w v2 B g r b #[.int .i64 5, .int .i64 xi, .int .i64 xv, .int .i64 xn] (.int .i64 S.keep.1) (.int .i64 S.keep.1)) := ⟨_, _, rfl, rfl, m2, HB1.out.trans b2⟩
          clear C2 m2 b2
          go_wp2_with fail
          go_meet
          case rel => exact HF.out
        by_cases k6 : xk = 6
        · as_aux_lemma =>
          subst k6
          have C1 := HVb.out.undo1
          unfold ptr at C1
          go_wp2_with fail
          refine Calls.mono C1 ?_
          rintro e v1 ⟨rfl, m1, b1⟩
          have C2 := m1.undo2
          have HB1 : Hid (Below B w v1) := HBb.out.trans b1
          unfold ptr at C2
          clear C1 b1 m1
          go_wp2_with fail
          refine Calls.mono C2 ?_
          rintro e v2 ⟨rfl, m2, b2⟩
          have HF : Hid (TR w v2 B g r b #[.int .i64 6, .int .i64 xi, .int .i64 xv, .int .i64 xn] (.int .i64 S.undo.1) (.int .i64 S.undo.1)) := ⟨_, _, rfl, rfl, m2, HB1.out.trans b2⟩
          clear C2 m2 b2
          go_wp2_with fail
          go_meet
          case rel => exact HF.out
        by_cases k7 : xk = 7
        · as_aux_lemma =>
          subst k7
          have C1 := HVb.out.mx.reads1
          unfold ptr at C1
          go_wp2_with fail
          refine Calls.mono C1 ?_
          rintro e v1 ⟨s1, rfl, o1, b1⟩
          have C2 := (HVb.out.mx.below b1).writes1
          unfold ptr at C2
          obtain ⟨a1, k1, e1⟩ := ownsRow_slice o1
          subst e1
          have hl1 := HVb.out.mx.lens
          have HO1 : Hid (Sp wb v1 a1 S.R.length k1) := ⟨_, o1⟩
          have HB1 : Hid (Below wb.heap.size wb v1) := b1
          clear C1 o1 b1
          go_wp2_with fail
          refine Calls.mono C2 ?_
          rintro e v2 ⟨s2, rfl, o2, b2⟩
          obtain ⟨a2, k2, e2⟩ := ownsRow_slice o2
          subst e2
          have HO2 : Hid (Sp wb v2 a1 S.R.length k1 ∧ Sp wb v2 a2 S.W.length k2 ∧ Below wb.heap.size wb v2) := ⟨HO1.out.below b2, ⟨_, ownsRow_base1 o2 HB1.out.size⟩, HB1.out.trans (b2.mono HB1.out.size)⟩
          clear C2 o2 b2 HO1 HB1
          have hn1 : S.R.length ≤ 256 := hl1.1
          have hn2 : S.W.length ≤ 256 := hl1.2.1
          clear hl1
          generalize S.R.length = n1 at *
          generalize S.W.length = n2 at *
          have hx0 := idx0 (.slice a1 n1 k1) (.slice a2 n2 k2)
          have hx1 := idx1 (.slice a1 n1 k1) (.slice a2 n2 k2)
          go_wp2_with fail
          go_loopw [96, 10, 11] (fun c v10 v11 u => ∃ j : Nat, j ≤ 2 ∧ c = .int .i64 (j : Int) ∧ Hid (Sp wb u a1 n1 k1 ∧ Sp wb u a2 n2 k2 ∧ Below wb.heap.size wb u) ∧ v10 = v10 ∧ v11 = v11) (fun c _ _ _ => 2 - (iv c).toNat)
          case atStart => exact ⟨0, by omega, rfl, HO2, rfl, rfl⟩
          case round =>
            obtain ⟨j, hj, rfl, hrel, _, _⟩ := hrel
            obtain ⟨wz, hwz⟩ : ∃ wz, wz = wr := ⟨_, rfl⟩
            subst hwz
            have hj3 : j = 0 ∨ j = 1 ∨ j = 2 := by omega
            rcases hj3 with rfl | rfl | rfl
            · go_wp2_with fail
              go_loopw [101, 11] (fun c v11 u => ∃ k : Nat, k ≤ n1 ∧ c = .int .i64 (k : Int) ∧ Hid (Sp wb u a1 n1 k1 ∧ Sp wb u a2 n2 k2 ∧ Below wb.heap.size wb u) ∧ v11 = v11) (fun c _ _ => n1 - (iv c).toNat)
              case atStart => exact ⟨0, Nat.zero_le _, rfl, hrel, rfl⟩
              case round =>
                obtain ⟨k, hk, rfl, hrel2, _⟩ := hrel
                by_cases hlt : k < n1
                · have hki : (k : Int) < (n1 : Int) := by omega
                  obtain ⟨q, z, eq, hq, x1, f1, cs1, bq⟩ := hrel2.out.1.get k hlt
                  subst eq
                  have HG : Hid (Sp wb (wr.setCell ⟨q, k, none⟩ (.int .i64 (-1))) (some ⟨q, 0, none⟩) n1 k1 ∧ Sp wb (wr.setCell ⟨q, k, none⟩ (.int .i64 (-1))) a2 n2 k2 ∧ Below wb.heap.size wb (wr.setCell ⟨q, k, none⟩ (.int .i64 (-1)))) := ⟨hrel2.out.1.store bq, hrel2.out.2.1.store bq, hrel2.out.2.2.grown (grown_store wr q k _) hrel2.out.2.2.size (fun x e => by cases e; exact hq)⟩
                  clear bq hrel2 hrel hq
                  go_wp2_with fail
                  go_roundw
                  case rel => exact ⟨k + 1, by omega, by simp, HG, trivial⟩
                  case measure => simp only [iv]; omega
                · have hkn : k = n1 := by omega
                  subst hkn
                  have hki : ¬ (k : Int) < (k : Int) := by omega
                  clear hrel
                  go_wp2_with fail
                  go_roundw
                  case rel => exact ⟨1, by omega, by simp, hrel2, trivial, trivial⟩
                  case measure => simp only [iv]; omega
            · go_wp2_with fail
              go_loopw [101, 11] (fun c v11 u => ∃ k : Nat, k ≤ n2 ∧ c = .int .i64 (k : Int) ∧ Hid (Sp wb u a1 n1 k1 ∧ Sp wb u a2 n2 k2 ∧ Below wb.heap.size wb u) ∧ v11 = v11) (fun c _ _ => n2 - (iv c).toNat)
              case atStart => exact ⟨0, Nat.zero_le _, rfl, hrel, rfl⟩
              case round =>
                obtain ⟨k, hk, rfl, hrel2, _⟩ := hrel
                by_cases hlt : k < n2
                · have hki : (k : Int) < (n2 : Int) := by omega
                  obtain ⟨q, z, eq, hq, x1, f1, cs1, bq⟩ := hrel2.out.2.1.get k hlt
                  subst eq
                  have HG : Hid (Sp wb (wr.setCell ⟨q, k, none⟩ (.int .i64 (-1))) a1 n1 k1 ∧ Sp wb (wr.setCell ⟨q, k, none⟩ (.int .i64 (-1))) (some ⟨q, 0, none⟩) n2 k2 ∧ Below wb.heap.size wb (wr.setCell ⟨q, k, none⟩ (.int .i64 (-1)))) := ⟨hrel2.out.1.store bq, hrel2.out.2.1.store bq, hrel2.out.2.2.grown (grown_store wr q k _) hrel2.out.2.2.size (fun x e => by cases e; exact hq)⟩
                  clear bq hrel2 hrel hq
                  go_wp2_with fail
                  go_roundw
                  case rel => exact ⟨k + 1, by omega, by simp, HG, trivial⟩
                  case measure => simp only [iv]; omega
                · have hkn : k = n2 := by omega
                  subst hkn
                  have hki : ¬ (k : Int) < (k : Int) := by omega
                  clear hrel
                  go_wp2_with fail
                  go_roundw
                  case rel => exact ⟨2, by omega, by simp, hrel2, trivial, trivial⟩
                  case measure => simp only [iv]; omega
            · have HF : Hid (TR w wz B g r b #[.int .i64 7, .int .i64 xi, .int .i64 xv, .int .i64 xn] (.int .i64 0) (.int .i64 0)) := ⟨S, 0, rfl, rfl, HVb.out.below hrel.out.2.2, HBb.out.trans (hrel.out.2.2.mono HVb.out.mx.hB)⟩
              clear hrel
              go_wp2_with fail
              go_meet
              case rel => exact HF.out
        as_aux_lemma =>
        have HF : Hid (TR w wb B g r b #[.int .i64 xk, .int .i64 xi, .int .i64 xv, .int .i64 xn] (.int .i64 0) (.int .i64 0)) := ⟨S, 0, rfl, rfl, HVb.out, HBb.out⟩
        go_wp2_with fail
        go_meet
        case rel => exact HF.out
      case rest =>
        obtain ⟨S', d, rfl, rfl, hT, hBw⟩ := hcut
        have HT : Hid (Mb wc B g r S' S' b #[.int .i64 xk, .int .i64 xi, .int .i64 xv, .int .i64 xn]) := hT
        have HBc : Hid (Below B w wc) := hBw
        have e1 : wc.cell? ⟨b, 1, none⟩ = some (.int .i64 xi) := hT.cell 1
        have q1 := hT.value1 xi HWF.out
        have q2 := hT.value2 xi
        have q3 := hT.seen1 xi HWF.out
        have q4 := hT.seen2 xi
        have q5 : Hid (∀ n, Calls Try.prog 24 #[.pointer (some ⟨g, 0, none⟩)] (wc.drewN n) fun e w' => e = .returned (.int .i64 (S'.M.length : Int)) ∧ w' = wc.drewN n) := fun n => (hT.drew n).depth1
        obtain ⟨aM, cM, q6⟩ := hT.marks2
        clear hT hBw HVb HBb d0 d1 d2 d3
        unfold ptr at q1 q2 q3 q4
        generalize (gt S'.W xi).getD 0 = y1 at *
        generalize (gt S'.W xi).isSome = y2 at *
        generalize (gt S'.R xi).getD 0 = y3 at *
        generalize (gt S'.R xi).isSome = y4 at *
        have HM : Hid (S'.M.length = S'.M.length) := rfl
        generalize S'.M.length = nm at q5 q6
        go_wp2_with (first | (go_at_call 20; refine Calls.mono q1 ?_; rintro e wx ⟨rfl, hwx⟩; subst wx) | (go_at_call 21; refine Calls.mono q2 ?_; rintro e wx ⟨rfl, hwx⟩; subst wx) | (go_at_call 22; refine Calls.mono q3 ?_; rintro e wx ⟨rfl, hwx⟩; subst wx) | (go_at_call 23; refine Calls.mono q4 ?_; rintro e wx ⟨rfl, hwx⟩; subst wx) | fail)
        go_quiet ((go_at_call 24; exact Calls.quiet_of_same (q5.out _)))
        go_wp2_with fail
        go_roundw
        case rel => exact ⟨k + 1, by omega, by omega, by simp, ⟨S', (HT.out.drew _).mx⟩, HBc.out.trans ⟨rfl, rfl, rfl, Nat.le_refl _, fun _ _ => rfl⟩⟩
        case measure => simp only [iv]; omega
    · clear hV hb HR
      by_cases hg : (k : Int) < (n0 : Int)
      · have hk2 : k = 600 := by omega
        subst k
        as_aux_lemma =>
        have C1 := HVa.out.reads1
        have hlen := HVa.out.lens
        unfold ptr at C1
        go_wp2_with fail
        refine Calls.mono C1 ?_
        rintro e v1 ⟨s1, rfl, o1, b1⟩
        have M1 : Hid (Mx v1 B g r S S) := HVa.out.below b1
        have C2 := M1.out.reads2
        unfold ptr at C2
        have O1 : Hid (v1.ownsRow wa.heap.size 3 1 s1 S.R.length (zcs (srt (kys S.R)))) := o1
        have B1 : Hid (Below B w v1) := HBa.out.trans (b1.mono HVa.out.hB)
        clear C1 o1 b1
        go_wp2_with fail
        refine Calls.mono C2 ?_
        rintro e v2 ⟨s2, rfl, o2, b2⟩
        have M2 : Hid (Mx v2 B g r S S) := M1.out.below b2
        have C3 := same_ints (l := srt (kys S.R)) (by rw [srt_len, kys_len]; exact ownsRow_below O1.out b2.block) (by rw [srt_len, kys_len]; exact o2) (by rw [srt_len, kys_len]; omega)
        have B2 : Hid (Below B w v2) := B1.out.trans (b2.mono M1.out.hB)
        clear C2 o2 b2 O1
        go_wp2_with fail
        refine Calls.mono C3 ?_
        rintro e v3 ⟨rfl, q3, h3⟩
        have M3 : Hid (Mx v3 B g r S S) := by rw [h3]; exact M2.out.below ⟨rfl, rfl, rfl, Nat.le_refl _, fun _ _ => rfl⟩
        have B3 : Hid (Below B w v3) := by rw [h3]; exact B2.out.trans ⟨rfl, rfl, rfl, Nat.le_refl _, fun _ _ => rfl⟩
        clear C3 h3
        have C4 := M3.out.writes1
        unfold ptr at C4
        go_wp2_with fail
        refine Calls.mono C4 ?_
        rintro e v4 ⟨s4, rfl, o4, b4⟩
        have M4 : Hid (Mx v4 B g r S S) := M3.out.below b4
        have C5 := M4.out.writes2
        unfold ptr at C5
        have O4 : Hid (v4.ownsRow v3.heap.size 3 1 s4 S.W.length (zcs (srt (kys S.W)))) := o4
        have B4 : Hid (Below B w v4) := B3.out.trans (b4.mono M3.out.hB)
        clear C4 o4 b4
        go_wp2_with fail
        refine Calls.mono C5 ?_
        rintro e v5 ⟨s5, rfl, o5, b5⟩
        have C6 := same_ints (l := srt (kys S.W)) (by rw [srt_len, kys_len]; exact ownsRow_below O4.out b5.block) (by rw [srt_len, kys_len]; exact o5) (by rw [srt_len, kys_len]; omega)
        have B5 : Hid (Below B w v5 ∧ B ≤ v5.heap.size) := ⟨B4.out.trans (b5.mono M4.out.hB), (M4.out.below b5).hB⟩
        clear C5 o5 b5 O4
        go_wp2_with fail
        refine Calls.mono C6 ?_
        rintro e v6 ⟨rfl, q6, h6⟩
        have B6 : Hid (Below B w v6 ∧ B ≤ v6.heap.size) := by rw [h6]; exact ⟨B5.out.1.trans ⟨rfl, rfl, rfl, Nat.le_refl _, fun _ _ => rfl⟩, B5.out.2⟩
        clear C6 h6
        have C7 := awake_at v6
        go_wp2_with fail
        refine Calls.mono C7 ?_
        rintro e v7 ⟨rfl, b7⟩
        have B7 : Hid (Below B w v7) := B6.out.1.trans (b7.mono B6.out.2)
        clear C7 b7
        go_wp2
        go_ret
        exact ⟨rfl, by rw [← HB.out]; exact B7.out⟩
      · have hk3 : ¬ (k : Int) < (n0 : Int) := hg
        as_aux_lemma =>
        have C1 := HVa.out.reads1
        have hlen := HVa.out.lens
        unfold ptr at C1
        go_wp2_with fail
        refine Calls.mono C1 ?_
        rintro e v1 ⟨s1, rfl, o1, b1⟩
        have M1 : Hid (Mx v1 B g r S S) := HVa.out.below b1
        have C2 := M1.out.reads2
        unfold ptr at C2
        have O1 : Hid (v1.ownsRow wa.heap.size 3 1 s1 S.R.length (zcs (srt (kys S.R)))) := o1
        have B1 : Hid (Below B w v1) := HBa.out.trans (b1.mono HVa.out.hB)
        clear C1 o1 b1
        go_wp2_with fail
        refine Calls.mono C2 ?_
        rintro e v2 ⟨s2, rfl, o2, b2⟩
        have M2 : Hid (Mx v2 B g r S S) := M1.out.below b2
        have C3 := same_ints (l := srt (kys S.R)) (by rw [srt_len, kys_len]; exact ownsRow_below O1.out b2.block) (by rw [srt_len, kys_len]; exact o2) (by rw [srt_len, kys_len]; omega)
        have B2 : Hid (Below B w v2) := B1.out.trans (b2.mono M1.out.hB)
        clear C2 o2 b2 O1
        go_wp2_with fail
        refine Calls.mono C3 ?_
        rintro e v3 ⟨rfl, q3, h3⟩
        have M3 : Hid (Mx v3 B g r S S) := by rw [h3]; exact M2.out.below ⟨rfl, rfl, rfl, Nat.le_refl _, fun _ _ => rfl⟩
        have B3 : Hid (Below B w v3) := by rw [h3]; exact B2.out.trans ⟨rfl, rfl, rfl, Nat.le_refl _, fun _ _ => rfl⟩
        clear C3 h3
        have C4 := M3.out.writes1
        unfold ptr at C4
        go_wp2_with fail
        refine Calls.mono C4 ?_
        rintro e v4 ⟨s4, rfl, o4, b4⟩
        have M4 : Hid (Mx v4 B g r S S) := M3.out.below b4
        have C5 := M4.out.writes2
        unfold ptr at C5
        have O4 : Hid (v4.ownsRow v3.heap.size 3 1 s4 S.W.length (zcs (srt (kys S.W)))) := o4
        have B4 : Hid (Below B w v4) := B3.out.trans (b4.mono M3.out.hB)
        clear C4 o4 b4
        go_wp2_with fail
        refine Calls.mono C5 ?_
        rintro e v5 ⟨s5, rfl, o5, b5⟩
        have C6 := same_ints (l := srt (kys S.W)) (by rw [srt_len, kys_len]; exact ownsRow_below O4.out b5.block) (by rw [srt_len, kys_len]; exact o5) (by rw [srt_len, kys_len]; omega)
        have B5 : Hid (Below B w v5 ∧ B ≤ v5.heap.size) := ⟨B4.out.trans (b5.mono M4.out.hB), (M4.out.below b5).hB⟩
        clear C5 o5 b5 O4
        go_wp2_with fail
        refine Calls.mono C6 ?_
        rintro e v6 ⟨rfl, q6, h6⟩
        have B6 : Hid (Below B w v6 ∧ B ≤ v6.heap.size) := by rw [h6]; exact ⟨B5.out.1.trans ⟨rfl, rfl, rfl, Nat.le_refl _, fun _ _ => rfl⟩, B5.out.2⟩
        clear C6 h6
        have C7 := awake_at v6
        go_wp2_with fail
        refine Calls.mono C7 ?_
        rintro e v7 ⟨rfl, b7⟩
        have B7 : Hid (Below B w v7) := B6.out.1.trans (b7.mono B6.out.2)
        clear C7 b7
        go_wp2
        go_ret
        exact ⟨rfl, by rw [← HB.out]; exact B7.out⟩
end Go.Proofs.Ytdneikfocefnfaa
