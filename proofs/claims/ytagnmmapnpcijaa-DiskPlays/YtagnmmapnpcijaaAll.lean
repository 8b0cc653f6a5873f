/-
  All unflushed writes carried out; Flush, Image, Crash.
-/
import Derived.Test.YtagnmmapnpcijaaCarry
namespace Go.Proofs.Ytagnmmapnpcijaa
open Go.RowKit

/-- the row of the unflushed writes, cell by cell -/
theorem Lies.writes {w : World} {g : Nat} {D : DS} {F : Nat → Prop} {gd cd : Nat} {vu : Value} {ps : List (Nat × Nat × Nat)} (h : Lies w g D F gd cd vu ps) (h0 : 0 < D.uf.length) :
    ∃ gv cu cur, vu = .slice (some ⟨gv, 0, none⟩) D.uf.length cu ∧ D.uf.length ≤ cu ∧ cu ≤ 9223372036854775807 ∧ Box w gv cur 79 ∧
      ∀ k (hk : k < D.uf.length) (hp : k < ps.length), w.cell? ⟨gv, 0 + k * 2, none⟩ = some (.int .i64 (D.uf[k].1 : Int)) ∧ w.cell? ⟨gv, 0 + k * 2 + 1, none⟩ = some (.slice (some ⟨ps[k].2.1, 0, none⟩) 4096 ps[k].2.2) := by
  rcases h.row.2 with ⟨_, h1⟩ | ⟨gv, cu, cur, hv, hb, hg, hn, hm, hs, ht⟩
  · omega
  · refine ⟨gv, cu, cur, hv, hn, by unfold maxLen at hm; omega, hg, fun k hk hkp => ?_⟩
    obtain ⟨a0, a1⟩ := wcs_at ps k hkp
    have hc := h.row.cells (g := gv) (by rw [hv]; rfl)
    have c0 := hc _ _ a0
    have c1 := hc _ _ a1
    rw [Addr.add_lit] at c0 c1
    obtain ⟨e, _⟩ := h.each k hkp hk
    rw [e] at c0
    exact ⟨c0, c1⟩

set_option maxRecDepth 100000 in
set_option maxHeartbeats 1000000 in
theorem carryAll_at {g : Nat} {w : World} {D : DS} {F : Nat → Prop} {gd cd : Nat} {vu : Value} {ps : List (Nat × Nat × Nat)} (h : Lies w g D F gd cd vu ps) (gi ci L : Nat) (d : List UInt8) (hi : RowB w gi ci d) (hL : L = D.nb * 4096) (hd : d.length = L) (hne : ∀ k (hk : k < ps.length), ps[k].2.1 ≠ gi) :
    Calls Try.prog 41 #[.pointer (some ⟨g, 0, none⟩), .slice (some ⟨gi, 0, none⟩) L ci] w fun e w' => e = .returned (.tuple #[]) ∧ RowB w' gi ci (carryTo D.uf d D.uf.length) ∧ Upd (fun i => i = gi) w w' := by
  obtain ⟨_, _, c2, _⟩ := box_cells h.box
  by_cases h0 : 0 < D.uf.length
  · obtain ⟨gv, cu, cur, rfl, hcu, hmu, hbv, hcells⟩ := h.writes h0
    have hgi : gv ≠ gi := by
      obtain ⟨cur', hb', _⟩ := hi
      exact hbv.ne hb' (by decide)
    have Hcells : Hid _ := hcells
    have hlt := hbv.lt
    have Hd : Hid _ := hd
    have HL : Hid _ := hL
    have H : Hid (Lies w g D F gd cd (.slice (some ⟨gv, 0, none⟩) D.uf.length cu) ps) := h
    obtain ⟨n, hn⟩ : ∃ n, n = D.uf.length := ⟨_, rfl⟩
    rw [← hn] at hcu c2 ⊢
    have Hn : Hid _ := hn
    clear hcells hd hL h hn h0
    go_enter Try.func41, Try.ntmps41
    go_wp2_with fail
    go_loopw [11] (fun i wr => ∃ k : Nat, k ≤ n ∧ i = .int .i64 k ∧ RowB wr gi ci (carryTo D.uf d k) ∧ Upd (fun i => i = gi) w wr) (fun i _ => n - (intOf i).toNat)
    case atStart => exact ⟨0, Nat.zero_le _, rfl, hi, Upd.refl _ _⟩
    case round =>
      obtain ⟨k, hk, rfl, hrow, U⟩ := hrel
      clear hi
      by_cases hlt' : k < n
      · have hk' : k < D.uf.length := by rw [← Hn.out]; exact hlt'
        have hkp : k < ps.length := by rw [H.out.len]; exact hk'
        obtain ⟨a0, a1⟩ := Hcells.out k hk' hkp
        obtain ⟨_, hdat, _, _⟩ := H.out.each k hkp hk'
        obtain ⟨hb1, hb2⟩ := H.out.ok.at k hk'
        have hps := hne k hkp
        have hsucc : Hid (carryTo D.uf d (k + 1) = carry (carryTo D.uf d k) D.uf[k].1 D.uf[k].2 255) := carryTo_succ D.uf d k hk'
        have hlen : Hid ((carryTo D.uf d k).length = L) := by rw [carryTo_length D H.out.ok d (by rw [Hd.out, HL.out, H.out.ok.len]) k]; exact Hd.out
        have hroom : D.uf[k].1 * 4096 + 4096 ≤ L := by rw [HL.out]; omega
        generalize (ps[k]'hkp).2.1 = gk at a1 hdat hps
        generalize (ps[k]'hkp).2.2 = ck at a1 hdat
        generalize (D.uf[k]'hk').2 = data at hdat hb2 hsucc
        generalize (D.uf[k]'hk').1 = bn at a0 hsucc hb1 hroom
        have a0' := (World.cell?_of_block (a := ⟨gv, 0 + k * 2, none⟩) (U.block gv hlt hgi)).trans a0
        have a1' := (World.cell?_of_block (a := ⟨gv, 0 + k * 2 + 1, none⟩) (U.block gv hlt hgi)).trans a1
        simp only [Nat.zero_add] at a0' a1'
        have hdat' := U.rowB hdat hps
        have bA := (Below.refl wr.heap.size wr).alloc (Nat.le_refl _) (.cells #[.int .i64 (bn : Int), .slice (some ⟨gk, 0, none⟩) 4096 ck] 79)
        have U1 := U.alloc (.cells #[.int .i64 (bn : Int), .slice (some ⟨gk, 0, none⟩) 4096 ck] 79)
        have hrow1 := hrow.same (bA.block gi hrow.lt)
        have hdat1 := hdat'.same (bA.block gk hdat'.lt)
        have Hb2 : Hid _ := hb2
        clear a0 a1 hdat hdat' hb2 bA
        go_wp2_with fail
        refine (carryOut_at bn gk ck gi ci L 255 data (carryTo D.uf d k) _ hdat1 hrow1 hps Hb2.out hlen.out hroom (by omega)).mono ?_
        rintro e w1 ⟨rfl, r1, u1⟩
        have U2 := U1.trans u1 (fun i e => .inl e)
        clear hrow hrow1 hdat1 U1 u1 U
        go_wp2
        go_roundw
        case rel => exact ⟨k + 1, by omega, by go_num, by rw [hsucc.out]; exact r1, U2⟩
        case measure => simp [intOf]; omega
      · obtain rfl : k = n := by omega
        go_wp2
        go_end0
        exact ⟨rfl, hrow, U⟩
  · have hn : D.uf.length = 0 := by omega
    rw [hn]
    have hv : vu = .slice none 0 0 ∨ ∃ ad cu, vu = .slice (some ad) 0 cu := by
      rcases h.row.2 with ⟨h1, _⟩ | ⟨gv, cu, cur, hv, _⟩
      · exact .inl h1
      · exact .inr ⟨⟨gv, 0, none⟩, cu, by rw [hv, hn]⟩
    obtain ⟨av, cu, rfl⟩ : ∃ av cu, vu = .slice av 0 cu := by
      rcases hv with rfl | ⟨ad, cu, rfl⟩
      · exact ⟨none, 0, rfl⟩
      · exact ⟨some ad, cu, rfl⟩
    clear hv hd
    go_enter Try.func41, Try.ntmps41
    go_wp2_with fail
    refine wp_loop_rounds 1 ?_
    rw [rounds_succ]
    go_wp2
    go_end0
    exact ⟨rfl, hi, Upd.refl _ _⟩
end Go.Proofs.Ytagnmmapnpcijaa
