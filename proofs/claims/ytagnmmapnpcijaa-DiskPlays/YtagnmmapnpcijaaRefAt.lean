/-
  The document's disk: Armed, Failing, At, Read.
-/
import Derived.Test.YtagnmmapnpcijaaRefOp
namespace Go.Proofs.Ytagnmmapnpcijaa
open Go.RowKit

theorem armed_ref (f : Nat) (j : Nat) (hf : (f = 53 ∧ j = 4) ∨ (f = 54 ∧ j = 5)) (a1 a2 : Option Addr) (n1 c1 n2 c2 : Nat) (cnt am fl : Int) (dn : Bool) (n : Int) (w : World) :
    Calls Try.prog f #[.agg #[.slice a1 n1 c1, .slice a2 n2 c2, .int .i64 cnt, .bool dn, .int .i64 am, .int .i64 fl], .int .i64 n] w fun r w' =>
      r = .returned (.tuple #[.agg #[.slice a1 n1 c1, .slice a2 n2 c2, .int .i64 cnt, .bool dn, .int .i64 (if n < 0 then am else if j = 4 then n else am), .int .i64 (if n < 0 then fl else if j = 4 then fl else n)], .int .i64 (if n < 0 then 2 else 0)]) ∧ Below w.heap.size w w' := by
  rcases hf with ⟨rfl, rfl⟩ | ⟨rfl, rfl⟩
  · by_cases h : n < 0
    · rw [if_pos h, if_pos h, if_pos h]
      go_enter Try.func53, Try.ntmps53
      go_wp2
      refine bodyPost_ret (hd := rfl) (hR := ⟨rfl, ((Below.refl w.heap.size w).alloc (Nat.le_refl _) _).alloc (by simp) _⟩) (hr := ?_)
      simp [results, Try.results53, go_sem]
    · rw [if_neg h, if_neg h, if_neg h, if_pos rfl, if_pos rfl]
      go_enter Try.func53, Try.ntmps53
      go_wp2
      refine bodyPost_ret (hd := rfl) (hR := ⟨rfl, ((Below.refl w.heap.size w).alloc (Nat.le_refl _) _).alloc (by simp) _⟩) (hr := ?_)
      simp [results, Try.results53, go_sem]
  · by_cases h : n < 0
    · rw [if_pos h, if_pos h, if_pos h]
      go_enter Try.func54, Try.ntmps54
      go_wp2
      refine bodyPost_ret (hd := rfl) (hR := ⟨rfl, ((Below.refl w.heap.size w).alloc (Nat.le_refl _) _).alloc (by simp) _⟩) (hr := ?_)
      simp [results, Try.results54, go_sem]
    · rw [if_neg h, if_neg h, if_neg h, if_neg (by decide), if_neg (by decide)]
      go_enter Try.func54, Try.ntmps54
      go_wp2
      refine bodyPost_ret (hd := rfl) (hR := ⟨rfl, ((Below.refl w.heap.size w).alloc (Nat.le_refl _) _).alloc (by simp) _⟩) (hr := ?_)
      simp [results, Try.results54, go_sem]

set_option maxRecDepth 100000 in
theorem rat_at {w : World} {Q : Nat → Prop} {a1 a2 : Option Addr} {n1 c1 n2 c2 : Nat} {D : DS} (h : RD w Q a1 a2 n1 c1 n2 c2 D) (cnt am fl : Int) (dn : Bool) (n : Nat) (hn : n < D.nb) :
    Calls Try.prog 55 #[.agg #[.slice a1 n1 c1, .slice a2 n2 c2, .int .i64 cnt, .bool dn, .int .i64 am, .int .i64 fl], .int .i64 n] w fun r w' =>
      ∃ p o c, r = .returned (.slice (some ⟨p, o, none⟩) 4096 c) ∧ BlkAt w' Q (.slice (some ⟨p, o, none⟩) 4096 c) (D.stand n) ∧ Below w.heap.size w w' := by
  have B0 := (Below.refl w.heap.size w).alloc (Nat.le_refl _) (.cells #[.slice a1 n1 c1, .slice a2 n2 c2, .int .i64 cnt, .bool dn, .int .i64 am, .int .i64 fl] 49)
  have x0 := Box.new w #[.slice a1 n1 c1, .slice a2 n2 c2, .int .i64 cnt, .bool dn, .int .i64 am, .int .i64 fl] 49
  have R0 := h.below B0
  obtain ⟨W, hW⟩ : ∃ W, W = w.alloc (.cells #[.slice a1 n1 c1, .slice a2 n2 c2, .int .i64 cnt, .bool dn, .int .i64 am, .int .i64 fl] 49) := ⟨_, rfl⟩
  rw [← hW] at B0 x0 R0
  obtain ⟨p0, p1, p2, p3, p4, p5⟩ := x0.all6
  have e1 := h.ns
  have e2 := h.nw
  obtain ⟨sl, sc, sm, g, o, rfl, hq, _, hcell⟩ := R0.safe
  obtain ⟨u, hu, hb⟩ := hcell n _ (safeOf_get D n hn)
  obtain ⟨bp, bo, bc, rfl, hb1⟩ := id hb
  have hnn : (n : Int) < (n1 : Int) := by omega
  have hwr := R0.wr
  have Hw : Hid _ := hwr
  have Hb : Hid _ := hb
  have HW : Hid _ := hW
  have He : Hid _ := e2
  have hn2 : n2 ≤ 9223372036854775807 := by have := hwr.2.2.1; have := hwr.2.1; unfold maxLen at *; omega
  have hn1 : n1 ≤ 9223372036854775807 := by unfold maxLen at sm; omega
  clear hcell hwr hb hb1 hW e2 h R0 sl sc sm e1
  go_enter Try.func55, Try.ntmps55
  go_upto_region 1 with fail
  rw [← HW.out]
  go_wp2_with fail
  go_loopw [5, 6] (fun v i wr => ∃ (k p' o' c' : Nat), k ≤ n2 ∧ v = .slice (some ⟨p', o', none⟩) 4096 c' ∧ i = .int .i64 k ∧ W = wr ∧ BlkAt W Q (.slice (some ⟨p', o', none⟩) 4096 c') ((lastOf D.uf n k).getD (blk D.dur n))) (fun _ i _ => n2 - (intOf i).toNat)
  case atStart => exact ⟨0, bp, bo, bc, by omega, rfl, rfl, rfl, Hb.out⟩
  case round =>
    clear Hb
    obtain ⟨k, p', o', c', hk, rfl, rfl, rfl, hB⟩ := hrel
    have HB : Hid _ := hB
    clear hB
    by_cases hlt : k < n2
    · have hlt2 : (k : Int) < (n2 : Int) := by omega
      obtain ⟨gw, ow, rfl, hqw, _, hcw⟩ := Hw.out.2.2.2.2 (by omega)
      have hku : k < D.uf.length := by rw [← He.out]; exact hlt
      obtain ⟨ca, ub, cb, hbw⟩ := hcw k _ (List.getElem?_eq_getElem hku)
      obtain ⟨wp, wo, wc, rfl, hbw1⟩ := id hbw
      have hstep : Hid (lastOf D.uf n (k + 1) = if D.uf[k].1 = n then some D.uf[k].2 else lastOf D.uf n k) := by
        show _ = _
        rw [lastOf, List.getElem?_eq_getElem hku]
      have Hbw : Hid _ := hbw
      clear hcw hbw hbw1
      by_cases e : D.uf[k].1 = n
      · rw [e] at ca
        go_wp2_with fail
        go_roundw
        case rel => exact ⟨k + 1, wp, wo, wc, by omega, rfl, by go_num, by trivial, by rw [hstep.out, if_pos e]; exact Hbw.out⟩
        case measure => simp [intOf]; omega
      · have e' : ((D.uf[k].1 : Int) == (n : Int)) = false := by simp; omega
        generalize (D.uf[k]'hku).1 = bb at ca e e' hstep
        go_wp2_with fail
        go_roundw
        case rel => exact ⟨k + 1, p', o', c', by omega, rfl, by go_num, by trivial, by rw [hstep.out, if_neg e]; exact HB.out⟩
        case measure => simp [intOf]; omega
    · have hkn : k = n2 := by omega
      subst k
      go_wp2_with fail
      go_ret
      refine ⟨p', o', c', rfl, ?_, B0⟩
      unfold DS.stand
      rw [← He.out]
      exact HB.out
end Go.Proofs.Ytagnmmapnpcijaa
