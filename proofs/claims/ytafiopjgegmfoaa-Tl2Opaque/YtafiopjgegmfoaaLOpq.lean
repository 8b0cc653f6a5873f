/-
  Tl2Opaque, walked.
-/
import Derived.Test.YtafiopjgegmfoaaLLaw
import Derived.Test.YtafiopjgegmfoaaTAwake
namespace Go.Proofs.Ytafiopjgegmfoaa.T
open Go.RowKit Go.Maps Go.Proofs.Ytafiopjgegmfoaa.C
/-- what 'lived' answers -/
def Lived (w : World) (arg : Value) : Prop := Calls Try.prog 5 #[arg] w fun r w' => ∃ av S A, r = .returned (.tuple #[av, .agg (valsTo S 6), .bool true]) ∧ LDone w w' av S A
set_option maxHeartbeats 8000000 in
set_option maxRecDepth 100000 in
theorem opaque_at {w : World} {a0 : Option Addr} {N0 c0 : Nat} (hl : Lived w (.slice a0 N0 c0)) :
    Calls Try.prog 4 #[.slice a0 N0 c0] w fun r w' => r = .returned (.bool true) ∧ Below w.heap.size w w' := by
  have cl : Calls Try.prog 5 #[.slice a0 N0 c0] w fun r w' => ∃ a N c f A, r = .returned (.tuple #[.slice a N c, .agg (sixOf f), .bool true]) ∧ Left4 w w' a N c f A := Calls.mono hl (by
    rintro r w' ⟨av, S, A, rfl, d⟩
    obtain ⟨a, N, c, f, rfl, e, h⟩ := d.left
    exact ⟨a, N, c, f, A, by rw [e], h⟩)
  unfold sixOf at cl
  clear hl
  go_enter Try.func4, Try.ntmps4
  go_wp2_with fail
  refine Calls.mono cl ?_
  rintro e w1 ⟨a, N, c, f, A, rfl, hL⟩
  have HL : Hid (Left4 w w1 a N c f A) := hL
  have hN : N ≤ 304 := hL.le
  clear hL cl
  go_wp2_with fail
  have B0 : Hid (Below w1.heap.size w1 (w1.alloc (.cells #[.int .i64 (f 0), .int .i64 (f 1), .int .i64 (f 2), .int .i64 (f 3), .int .i64 (f 4), .int .i64 (f 5)] 24))) := (Below.refl _ _).alloc (Nat.le_refl _) _
  generalize w1.alloc (.cells #[.int .i64 (f 0), .int .i64 (f 1), .int .i64 (f 2), .int .i64 (f 3), .int .i64 (f 4), .int .i64 (f 5)] 24) = wa at *
  go_loopw [21] (fun i u' => ∃ j : Nat, j ≤ N ∧ i = .int .i64 (j : Int) ∧ Below w1.heap.size w1 u') (fun i _ => N - (civ i).toNat)
  case atStart => exact ⟨0, by omega, rfl, B0.out⟩
  case round =>
    obtain ⟨j, hj, rfl, hb⟩ := hrel
    have HB : Hid (Below w1.heap.size w1 wr) := hb
    clear hb B0
    by_cases hjt : j < N
    · obtain ⟨h, b, g, a2, c2, hA, ha, hall⟩ := HL.out.hist j hjt
      subst ha
      have hjn : (j : Int) < (N : Int) := by omega
      have HH : Hid (∀ u', Below w1.heap.size w1 u' → AtR u' g j b h a2 c2) := hall
      have f0 := hall wr HB.out
      have cr := f0.at1.row
      have cg := f0.bg
      have hmem : h ∈ A := List.mem_of_getElem? hA
      have HIn : Hid h.In := HL.out.inn j h hA
      have HRd : Hid (h.rd.length ≤ 304) := HL.out.rdl j h hA
      have HOp : Hid (∀ p ∈ h.rd, atP A h.beg.toNat p.1 = p.2) := HL.out.opq h hmem
      have ca := HL.out.att wr HB.out h.beg HIn.out.bg
      unfold sixOf at ca
      obtain ⟨F, hF⟩ : ∃ F, F = atP A h.beg.toNat := ⟨_, rfl⟩
      rw [← hF] at ca HOp
      clear hall hA f0 hF hmem
      go_wp2_with fail
      refine ca.mono ?_
      rintro r w2 ⟨rfl, hb2⟩
      have HB2 : Hid (Below w1.heap.size w1 w2) := HB.out.trans (hb2.mono HB.out.size)
      clear hb2 ca HB cr cg
      go_upto_region 8 with fail
      obtain ⟨wb, hwb⟩ : ∃ wb, wb = w2.alloc (.cells #[.int .i64 (F 0), .int .i64 (F 1), .int .i64 (F 2), .int .i64 (F 3), .int .i64 (F 4), .int .i64 (F 5)] 24) := ⟨_, rfl⟩
      rw [← hwb]
      have HX : Hid (Below w1.heap.size w1 wb ∧ Box wb w2.heap.size (sixOf F) 24 ∧ w1.heap.size ≤ w2.heap.size) := by
        rw [hwb]
        exact ⟨HB2.out.alloc HB2.out.size _, Box.new w2 _ 24, HB2.out.size⟩
      clear hwb HB2
      obtain ⟨tb, htb⟩ : ∃ tb, tb = w2.heap.size := ⟨_, rfl⟩
      rw [← htb] at HX ⊢
      clear htb
      have f1 := HH.out wb HX.out.1
      have cv := f1.rv
      clear f1
      obtain ⟨M, hM⟩ : ∃ M, M = h.rd.length := ⟨_, rfl⟩
      rw [← hM] at cv
      have HM : Hid (M = h.rd.length) := hM
      have hM3 : M ≤ 304 := by rw [hM]; exact HRd.out
      clear hM
      go_wp2_with fail
      go_loopw [36] (fun i u' => ∃ k : Nat, k ≤ M ∧ i = .int .i64 (k : Int) ∧ Below w1.heap.size w1 u' ∧ Box u' tb (sixOf F) 24) (fun i _ => M - (civ i).toNat)
      case atStart => exact ⟨0, by omega, rfl, HX.out.1, HX.out.2.1⟩
      case round =>
        obtain ⟨k, hk, rfl, hb1, hx1⟩ := hrel
        have HX1 : Hid (Below w1.heap.size w1 wr ∧ Box wr tb (sixOf F) 24) := ⟨hb1, hx1⟩
        clear hb1 hx1
        by_cases hkt : k < M
        · obtain ⟨q, hq⟩ : ∃ q, h.rd[k]? = some q := ⟨_, List.getElem?_eq_getElem (by rw [← HM.out]; exact hkt)⟩
          have f2 := HH.out wr HX1.out.1
          obtain ⟨g2, e2, k0, k1⟩ := f2.rr k q hq
          subst e2
          have hqm : q ∈ h.rd := List.mem_of_getElem? hq
          have hq6 : 0 ≤ q.1 ∧ q.1 < 6 := HIn.out.rd q hqm
          have hqv : F q.1 = q.2 := HOp.out q hqm
          obtain ⟨x, y⟩ := q
          dsimp only at k0 k1 hq6 hqv
          have hkn : (k : Int) < (M : Int) := by omega
          clear f2 hq hqm
          go_upto_region 11 with fail
          obtain ⟨i, rfl⟩ : ∃ i : Nat, x = (i : Int) := ⟨x.toNat, by omega⟩
          have hi6 : i < 6 := by omega
          have hi6' : (i : Int) < 6 := by omega
          obtain ⟨wc, hwc⟩ : ∃ wc, wc = wr.alloc (.cells #[.int .i64 (i : Int), .int .i64 y] 35) := ⟨_, rfl⟩
          obtain ⟨ob, hob⟩ : ∃ ob, ob = wr.heap.size := ⟨_, rfl⟩
          have bo : Box wc ob #[.int .i64 (i : Int), .int .i64 y] 35 := by rw [hwc, hob]; exact Box.new wr _ 35
          have bt : Box wc tb (sixOf F) 24 := by rw [hwc]; exact HX1.out.2.alloc _
          have HB6 : Hid (Below w1.heap.size w1 wc ∧ Box wc tb (sixOf F) 24) := ⟨by rw [hwc]; exact HX1.out.1.alloc HX1.out.1.size _, bt⟩
          rw [← hwc, ← hob]
          have e0 : wc.cell? ⟨ob, 0, none⟩ = some (.int .i64 (i : Int)) := bo.cell 0
          have e1 : wc.cell? ⟨ob, 1, none⟩ = some (.int .i64 y) := bo.cell 1
          have e2 : wc.cell? ⟨tb, i, none⟩ = some (.int .i64 y) := by
            rw [bt.cell i, ← hqv]
            have : i = 0 ∨ i = 1 ∨ i = 2 ∨ i = 3 ∨ i = 4 ∨ i = 5 := by omega
            rcases this with rfl | rfl | rfl | rfl | rfl | rfl <;> rfl
          clear hwc hob bo bt HX1 HX k0 k1 hqv cv hq6
          go_quiet (fail)
          obtain ⟨wd, hwd⟩ : ∃ wd, wd = wc.drewN nq := ⟨_, rfl⟩
          rw [← hwd]
          have HB7 : Hid (Below w1.heap.size w1 wd ∧ Box wd tb (sixOf F) 24) := by
            obtain ⟨p1, p2⟩ := HB6.out
            rw [hwd]
            exact ⟨⟨p1.os, p1.tape, p1.output, p1.size, p1.block⟩, p2⟩
          clear hwd HB6 e0 e1 e2
          go_wp2_with fail
          go_roundw
          case rel => exact ⟨k + 1, by omega, by go_num, HB7.out.1, HB7.out.2⟩
          case measure => simp only [civ]; omega
        · have hkn : ¬ (k : Int) < (M : Int) := by omega
          have HB5 : Hid (Below w1.heap.size w1 wr) := HX1.out.1
          clear HX1 HX
          go_wp2_with fail
          go_roundw
          case rel => exact ⟨j + 1, by omega, by go_num, HB5.out⟩
          case measure => simp only [civ]; omega
    · have hjn : ¬ (j : Int) < (N : Int) := by omega
      have ck := awake_at wr
      have HB1 : Hid (Below w.heap.size w wr) := HL.out.bel.trans (HB.out.mono HL.out.bel.size)
      clear HB HL
      go_wp2_with fail
      refine ck.mono ?_
      rintro r w2 ⟨rfl, hb2⟩
      have HB2 : Hid (Below w.heap.size w w2) := HB1.out.trans (hb2.mono HB1.out.size)
      clear hb2 ck HB1
      go_wp2_with fail
      go_ret
      exact ⟨rfl, HB2.out⟩
end Go.Proofs.Ytafiopjgegmfoaa.T
