/-
  DkCrash, DkLate, DkWrite, DkTold, HLay, HHomeAt, HChoose, HDo, HSup: put together.
-/
import Derived.Test.YtdkaacjeogifdaaG5
import Derived.Deep.Cut
/-
  Crash.
-/
namespace Go.Proofs.Ytdkaacjeogifdaa.Dk
open Go.RowKit

/-- These bools lie where a says (of none nothing is asked). -/
def RdBl (w : World) (a : Option Addr) (ks : List Bool) : Prop :=
  0 < ks.length → ∃ b o, a = some ⟨b, o, none⟩ ∧ ∀ j (h : j < ks.length), w.cell? ⟨b, o + j, none⟩ = some (.bool ks[j])
theorem RdBl.nil (w : World) (a : Option Addr) : RdBl w a [] := fun h => absurd h (by simp)

theorem keeps_lt {ks : List Bool} {k : Nat} (h : k < ks.length) : keeps ks k = ks[k] := by simp [keeps, List.getElem?_eq_getElem h]
theorem keeps_ge {ks : List Bool} {k : Nat} (h : ¬ k < ks.length) : keeps ks k = false := by simp [keeps, List.getElem?_eq_none (Nat.le_of_not_lt h)]

set_option maxRecDepth 100000 in
set_option maxHeartbeats 4000000 in
theorem crashLoop {g : Nat} {w : World} {D : DS} {F : Nat → Prop} {gd cd : Nat} {vu : Value} {ps : List (Nat × Nat × Nat)} (h : Lies w g D F gd cd vu ps) (h0 : 0 < D.uf.length) (ak : Option Addr) (nk ck0 : Nat) (ks : List Bool) (torn : Int) (m : Nat) (hm : m < 256) (hks : ks.length = nk) (hnk : nk ≤ 9223372036854775807) (hrk : RdBl w ak ks) (hkF : ∀ ad, ak = some ad → 0 < nk → ¬ F ad.block) :
    Calls Try.prog 25 #[.pointer (some ⟨g, 0, none⟩), .slice ak nk ck0, .int .i64 torn, .int .u8 (m : Int)] w fun e w' => e = .returned (.int .i64 0) ∧ IsDisk w' g (D.crash ks torn m) F ∧ Upd F w w' := by
  have c := isMade_at h
  obtain ⟨_, c1, c2, _⟩ := box_cells h.box
  obtain ⟨gv, cu, cur, rfl, hcu, hmu, hbv, hcells⟩ := h.writes h0
  have hgi : gv ≠ gd := by
    obtain ⟨cur', hb', _⟩ := h.dur
    exact hbv.ne hb' (by decide)
  have hgd : g ≠ gd := by
    obtain ⟨cur', hb', _⟩ := h.dur
    exact h.box.ne hb' (by decide)
  have Hcells : Hid _ := hcells
  have hlt := hbv.lt
  have hglt := h.box.lt
  have Hks : Hid _ := hks
  have hdr := h.dur
  have H : Hid (Lies w g D F gd cd (.slice (some ⟨gv, 0, none⟩) D.uf.length cu) ps) := h
  obtain ⟨n, hn⟩ : ∃ n, n = D.uf.length := ⟨_, rfl⟩
  rw [← hn] at hcu c2
  obtain ⟨L, hL⟩ : ∃ L, L = D.nb * 4096 := ⟨_, rfl⟩
  rw [← hL] at c1
  have HL : Hid _ := hL
  have Hn : Hid _ := hn
  have hkb : ∀ k, k < nk → ∃ b o, ak = some ⟨b, o, none⟩ ∧ b < w.heap.size ∧ b ≠ gd ∧ ∀ j (h : j < ks.length), w.cell? ⟨b, o + j, none⟩ = some (.bool ks[j]) := fun k hk => by
    obtain ⟨b, o, hab, hc⟩ := hrk (by omega)
    refine ⟨b, o, hab, block_lt_of_cell (hc k (by omega)), fun e => ?_, hc⟩
    exact hkF _ hab (by omega) (by show F b; rw [e]; exact h.fd)
  have Hkb : Hid _ := hkb
  clear hcells h hn h0 hks hrk hL hkb
  go_enter Try.func25, Try.ntmps25
  go_wp2_with fail
  refine c.mono ?_
  rintro e w' ⟨rfl, rfl⟩
  clear c
  go_wp2_with fail
  go_loopw [19] (fun i wr => ∃ k : Nat, k ≤ n ∧ i = .int .i64 k ∧ RowB wr gd cd (crashTo ks torn m D.uf D.dur k) ∧ Upd (fun i => i = gd) w wr) (fun i _ => n - (intOf i).toNat)
  case atStart => exact ⟨0, Nat.zero_le _, rfl, hdr, Upd.refl _ _⟩
  case round =>
    obtain ⟨k, hk, rfl, hrow, U⟩ := hrel
    clear hdr
    by_cases hlt' : k < n
    · have hk' : k < D.uf.length := by rw [← Hn.out]; exact hlt'
      have hkp : k < ps.length := by rw [H.out.len]; exact hk'
      obtain ⟨a0, a1⟩ := Hcells.out k hk' hkp
      obtain ⟨_, hdat, hps, _⟩ := H.out.each k hkp hk'
      obtain ⟨hb1, hb2⟩ := H.out.ok.at k hk'
      have hsucc : Hid _ := crashTo_succ ks torn m D.uf D.dur k hk'
      have hlen : Hid ((crashTo ks torn m D.uf D.dur k).length = L) := by rw [crashTo_length D H.out.ok ks torn m k, H.out.ok.len]; exact HL.out.symm
      have hroom : D.uf[k].1 * 4096 + 4096 ≤ L := by rw [HL.out]; omega
      generalize (ps[k]'hkp).2.1 = gk at a1 hdat hps
      generalize (ps[k]'hkp).2.2 = ck at a1 hdat
      generalize (D.uf[k]'hk').2 = data at hdat hb2 hsucc
      generalize (D.uf[k]'hk').1 = bn at a0 hsucc hb1 hroom
      have a0' := (World.cell?_of_block (a := ⟨gv, 0 + k * 2, none⟩) (U.block gv hlt hgi)).trans a0
      have a1' := (World.cell?_of_block (a := ⟨gv, 0 + k * 2 + 1, none⟩) (U.block gv hlt hgi)).trans a1
      have d1 := (World.cell?_of_block (a := ⟨g, 1, none⟩) (U.block g hglt hgd)).trans c1
      simp only [Nat.zero_add] at a0' a1'
      have hdat' := U.rowB hdat hps
      have bA := (Below.refl wr.heap.size wr).alloc (Nat.le_refl _) (.cells #[.int .i64 (bn : Int), .slice (some ⟨gk, 0, none⟩) 4096 ck] 93)
      have U1 := (U.alloc (.cells #[.int .i64 (bn : Int), .slice (some ⟨gk, 0, none⟩) 4096 ck] 93)).drew
      have xb := Box.new wr #[.int .i64 (bn : Int), .slice (some ⟨gk, 0, none⟩) 4096 ck] 93
      have hrow1 := hrow.same (bA.block gd hrow.lt)
      have hdat1 := hdat'.same (bA.block gk hdat'.lt)
      have hgr : g < wr.heap.size := Nat.lt_of_lt_of_le hglt U.size
      replace d1 := (bA.cell (p := ⟨g, 1, none⟩) hgr).trans d1
      have hGd : wr.heap.size ≠ gd := fun e => by have := hrow.lt; omega
      have hkc : k < nk → ∃ b o, ak = some ⟨b, o, none⟩ ∧ (wr.alloc (.cells #[.int .i64 (bn : Int), .slice (some ⟨gk, 0, none⟩) 4096 ck] 93)).cell? ⟨b, o + k, none⟩ = some (.bool (keeps ks k)) := fun hk9 => by
        obtain ⟨b, o, hab, hbl, hbg, hc⟩ := Hkb.out k hk9
        refine ⟨b, o, hab, ?_⟩
        rw [keeps_lt (by rw [Hks.out]; exact hk9)]
        exact (bA.cell (p := ⟨b, o + k, none⟩) (Nat.lt_of_lt_of_le hbl U.size)).trans ((World.cell?_of_block (a := ⟨b, o + k, none⟩) (U.block b hbl hbg)).trans (hc k (by rw [Hks.out]; exact hk9)))
      have Hb2 : Hid _ := hb2
      have hgV : g < (wr.alloc (.cells #[.int .i64 (bn : Int), .slice (some ⟨gk, 0, none⟩) 4096 ck] 93)).heap.size := Nat.lt_of_lt_of_le hgr bA.size
      clear a0 a1 hdat hdat' hb2
      obtain ⟨V, hV⟩ : ∃ V, V = wr.alloc (.cells #[.int .i64 (bn : Int), .slice (some ⟨gk, 0, none⟩) 4096 ck] 93) := ⟨_, rfl⟩
      obtain ⟨G, hG⟩ : ∃ G, G = wr.heap.size := ⟨_, rfl⟩
      rw [← hV] at U1 xb hrow1 hdat1 d1 hkc hgV
      rw [← hG] at xb hGd
      have HV : Hid _ := hV
      have HG : Hid _ := hG
      have U1' : Upd (fun i => i = gd) w V := by rw [hV]; exact U.alloc _
      clear hV hG bA
      by_cases ht : (k : Int) = torn
      · have hs : Hid (crashTo ks torn m D.uf D.dur (k + 1) = carry (crashTo ks torn m D.uf D.dur k) bn data m) := by have := hsucc.out; rw [if_pos ht] at this; exact this
        have ht' : ((k : Int) == torn) = true := by simpa using ht
        clear hsucc ht hkc U1'
        go_upto_region 7 with fail
        rw [← HV.out, ← HG.out]
        clear HV HG
        refine wp_region_any (by kernel_rfl) ?_
        change wpAny _ _ _ _ _ _ _ (World.drew _)
        refine wpAny_take (i := 1) (v := ?_) rfl (by kernel_rfl) (by kernel_rfl) (by kernel_rfl) (fun _ _ _ h => h) (Or.inl ⟨by rfl, ?_⟩) ?_
        rotate_left
        · intro w
          go_simp
          with_reducible rfl
        refine wpAny_take (i := 2) (v := ?_) rfl (by kernel_rfl) (by kernel_rfl) (by kernel_rfl) (fun _ _ _ h => h) (Or.inl ⟨by rfl, ?_⟩) ?_
        rotate_left
        · intro w
          go_simp
          with_reducible rfl
        refine wpAny_take (i := 3) (v := ?_) rfl (by kernel_rfl) (by kernel_rfl) (by kernel_rfl) (fun _ _ _ h => h) (Or.inl ⟨by rfl, ?_⟩) ?_
        rotate_left
        · intro w
          go_simp
          with_reducible rfl
        refine wpAny_take (i := 5) (v := ?_) rfl (by kernel_rfl) (by kernel_rfl) (by kernel_rfl) (fun _ _ _ h => h) (Or.inl ⟨by rfl, ?_⟩) ?_
        rotate_left
        · intro w
          go_simp
          with_reducible rfl
        simp only [Act.put, List.setIfInBounds_toArray, List.set_cons_zero, List.set_cons_succ, List.getElem_toArray, List.getElem_cons_zero, List.getElem_cons_succ]
        refine wpAny_of_class (C := SlotsCells [(10, .pointer (some ⟨G, 0, none⟩)), (31, .pointer (some ⟨g, 1, none⟩))] [(⟨G, 0, none⟩, .int .i64 (bn : Int)), (⟨G, 1, none⟩, .slice (some ⟨gk, 0, none⟩) 4096 ck), (⟨g, 1, none⟩, .slice (some ⟨gd, 0, none⟩) L cd)]) _ _ _ _ ?_
        have hC : ∀ q ∈ ([(⟨G, 0, none⟩, .int .i64 (bn : Int)), (⟨G, 1, none⟩, .slice (some ⟨gk, 0, none⟩) 4096 ck), (⟨g, 1, none⟩, .slice (some ⟨gd, 0, none⟩) L cd)] : List (Addr × Value)), V.drew.cell? q.1 = some q.2 := by
          intro q hq
          simp at hq
          rcases hq with rfl | rfl | rfl
          · exact xb.cell 0
          · exact xb.cell 1
          · exact d1
        refine wpAnyC_take (i := 0) (v := .agg #[.int .i64 (bn : Int), .slice (some ⟨gk, 0, none⟩) 4096 ck]) rfl (by kernel_rfl) (by kernel_rfl) (by kernel_rfl) (fun _ _ _ h => h) ?_ (fun fr u h => (SlotsCells.put 28 _ (by rfl)).1 h) (fun fr u h => (SlotsCells.put 28 _ (by rfl)).2 h) ?_ ?_
        · intro fr u hh
          obtain ⟨e1, e2⟩ := hh.load (s := 10) (p := ⟨G, 0, none⟩) (v := .int .i64 (bn : Int)) (by simp) (by simp)
          have e3 := hh.2 (⟨G, 1, none⟩, .slice (some ⟨gk, 0, none⟩) 4096 ck) (by simp)
          dsimp only at e3
          exact ⟨rfl, by simp [execOp, e1, go_sem, e2, e3]⟩
        · refine ⟨fun p hp => ?_, hC⟩
          simp at hp
          rcases hp with rfl | rfl <;> rfl
        simp only [Act.put, List.setIfInBounds_toArray, List.set_cons_zero, List.set_cons_succ, List.getElem_toArray, List.getElem_cons_zero]
        refine wpAnyC_take (i := 4) (v := .slice (some ⟨gd, 0, none⟩) L cd) rfl (by kernel_rfl) (by kernel_rfl) (by kernel_rfl) (fun _ _ _ h => h) ?_ (fun fr u h => (SlotsCells.put 32 _ (by rfl)).1 h) (fun fr u h => (SlotsCells.put 32 _ (by rfl)).2 h) ?_ ?_
        · intro fr u hh
          obtain ⟨e1, e2⟩ := hh.load (s := 31) (p := ⟨g, 1, none⟩) (v := .slice (some ⟨gd, 0, none⟩) L cd) (by simp) (by simp)
          exact ⟨rfl, by simp [execOp, e1, go_sem, e2]⟩
        · refine ⟨fun p hp => ?_, hC⟩
          simp at hp
          rcases hp with rfl | rfl <;> rfl
        simp only [Act.put, List.setIfInBounds_toArray, List.set_cons_zero, List.set_cons_succ, List.getElem_toArray, List.getElem_cons_zero, List.getElem_cons_succ]
        refine wpAnyC_one (i := 6) (by kernel_rfl) rfl (fun K hK => ?_)
        go_simp
        refine (carryOut_at bn gk ck gd cd L m data (crashTo ks torn m D.uf D.dur k) V.drew hdat1 hrow1 hps Hb2.out hlen.out hroom (by omega)).mono ?_
        rintro e w1 ⟨rfl, r1, u1⟩
        have U2 := U1.trans u1 (fun i e => .inl e)
        have d1' := (World.cell?_of_block (a := ⟨g, 1, none⟩) (u1.block g hgV hgd)).trans d1
        have xb' := u1.box xb hGd
        refine hK _ _ ⟨?_, ?_⟩
        · refine ⟨fun p hp => ?_, fun q hq => ?_⟩
          · simp at hp
            rcases hp with rfl | rfl <;> rfl
          · simp at hq
            rcases hq with rfl | rfl | rfl
            · exact xb'.cell 0
            · exact xb'.cell 1
            · exact d1'
        clear hK K hC
        refine wpAnyC_done (by kernel_rfl) ?_ _
        clear xb xb' d1' hrow1 hdat1 U1 u1
        go_wp2
        go_roundw
        case rel => exact ⟨k + 1, by omega, by go_num, by rw [hs.out]; exact r1, U2⟩
        case measure => simp [intOf]; omega
      · have hs0 : Hid (crashTo ks torn m D.uf D.dur (k + 1) = if keeps ks k then carry (crashTo ks torn m D.uf D.dur k) bn data 255 else crashTo ks torn m D.uf D.dur k) := by have := hsucc.out; rw [if_neg ht] at this; exact this
        have ht' : ((k : Int) == torn) = false := by simpa using ht
        clear hsucc ht
        by_cases hkn : k < nk
        · obtain ⟨b, o, rfl, hcell⟩ := hkc hkn
          have hkn' : (k : Int) < (nk : Int) := by omega
          clear hkc
          cases hkeep : keeps ks k with
          | true =>
            have hs : Hid (crashTo ks torn m D.uf D.dur (k + 1) = carry (crashTo ks torn m D.uf D.dur k) bn data 255) := by have := hs0.out; rw [hkeep] at this; exact this
            rw [hkeep] at hcell
            clear hs0 U1'
            go_upto_region 6 with fail
            rw [← HV.out, ← HG.out]
            go_upto_region 9 with fail
            clear HV HG hcell
            refine wp_region_any (by kernel_rfl) ?_
            change wpAny _ _ _ _ _ _ _ (World.drew _)
            refine wpAny_take (i := 1) (v := ?_) rfl (by kernel_rfl) (by kernel_rfl) (by kernel_rfl) (fun _ _ _ h => h) (Or.inl ⟨by rfl, ?_⟩) ?_
            rotate_left
            · intro w
              go_simp
              with_reducible rfl
            refine wpAny_take (i := 2) (v := ?_) rfl (by kernel_rfl) (by kernel_rfl) (by kernel_rfl) (fun _ _ _ h => h) (Or.inl ⟨by rfl, ?_⟩) ?_
            rotate_left
            · intro w
              go_simp
              with_reducible rfl
            refine wpAny_take (i := 3) (v := ?_) rfl (by kernel_rfl) (by kernel_rfl) (by kernel_rfl) (fun _ _ _ h => h) (Or.inl ⟨by rfl, ?_⟩) ?_
            rotate_left
            · intro w
              go_simp
              with_reducible rfl
            simp only [Act.put, List.setIfInBounds_toArray, List.set_cons_zero, List.set_cons_succ, List.getElem_toArray, List.getElem_cons_zero, List.getElem_cons_succ]
            refine wpAny_of_class (C := SlotsCells [(10, .pointer (some ⟨G, 0, none⟩)), (49, .pointer (some ⟨g, 1, none⟩))] [(⟨G, 0, none⟩, .int .i64 (bn : Int)), (⟨G, 1, none⟩, .slice (some ⟨gk, 0, none⟩) 4096 ck), (⟨g, 1, none⟩, .slice (some ⟨gd, 0, none⟩) L cd)]) _ _ _ _ ?_
            have hC : ∀ q ∈ ([(⟨G, 0, none⟩, .int .i64 (bn : Int)), (⟨G, 1, none⟩, .slice (some ⟨gk, 0, none⟩) 4096 ck), (⟨g, 1, none⟩, .slice (some ⟨gd, 0, none⟩) L cd)] : List (Addr × Value)), V.drew.cell? q.1 = some q.2 := by
              intro q hq
              simp at hq
              rcases hq with rfl | rfl | rfl
              · exact xb.cell 0
              · exact xb.cell 1
              · exact d1
            refine wpAnyC_take (i := 0) (v := .agg #[.int .i64 (bn : Int), .slice (some ⟨gk, 0, none⟩) 4096 ck]) rfl (by kernel_rfl) (by kernel_rfl) (by kernel_rfl) (fun _ _ _ h => h) ?_ (fun fr u h => (SlotsCells.put 46 _ (by rfl)).1 h) (fun fr u h => (SlotsCells.put 46 _ (by rfl)).2 h) ?_ ?_
            · intro fr u hh
              obtain ⟨e1, e2⟩ := hh.load (s := 10) (p := ⟨G, 0, none⟩) (v := .int .i64 (bn : Int)) (by simp) (by simp)
              have e3 := hh.2 (⟨G, 1, none⟩, .slice (some ⟨gk, 0, none⟩) 4096 ck) (by simp)
              dsimp only at e3
              exact ⟨rfl, by simp [execOp, e1, go_sem, e2, e3]⟩
            · refine ⟨fun p hp => ?_, hC⟩
              simp at hp
              rcases hp with rfl | rfl <;> rfl
            simp only [Act.put, List.setIfInBounds_toArray, List.set_cons_zero, List.set_cons_succ, List.getElem_toArray, List.getElem_cons_zero]
            refine wpAnyC_take (i := 4) (v := .slice (some ⟨gd, 0, none⟩) L cd) rfl (by kernel_rfl) (by kernel_rfl) (by kernel_rfl) (fun _ _ _ h => h) ?_ (fun fr u h => (SlotsCells.put 50 _ (by rfl)).1 h) (fun fr u h => (SlotsCells.put 50 _ (by rfl)).2 h) ?_ ?_
            · intro fr u hh
              obtain ⟨e1, e2⟩ := hh.load (s := 49) (p := ⟨g, 1, none⟩) (v := .slice (some ⟨gd, 0, none⟩) L cd) (by simp) (by simp)
              exact ⟨rfl, by simp [execOp, e1, go_sem, e2]⟩
            · refine ⟨fun p hp => ?_, hC⟩
              simp at hp
              rcases hp with rfl | rfl <;> rfl
            simp only [Act.put, List.setIfInBounds_toArray, List.set_cons_zero, List.set_cons_succ, List.getElem_toArray, List.getElem_cons_zero, List.getElem_cons_succ]
            refine wpAnyC_one (i := 5) (by kernel_rfl) rfl (fun K hK => ?_)
            go_simp
            refine (carryOut_at bn gk ck gd cd L 255 data (crashTo ks torn m D.uf D.dur k) V.drew hdat1 hrow1 hps Hb2.out hlen.out hroom (by omega)).mono ?_
            rintro e w1 ⟨rfl, r1, u1⟩
            have U2 := U1.trans u1 (fun i e => .inl e)
            have d1' := (World.cell?_of_block (a := ⟨g, 1, none⟩) (u1.block g hgV hgd)).trans d1
            have xb' := u1.box xb hGd
            refine hK _ _ ⟨?_, ?_⟩
            · refine ⟨fun p hp => ?_, fun q hq => ?_⟩
              · simp at hp
                rcases hp with rfl | rfl <;> rfl
              · simp at hq
                rcases hq with rfl | rfl | rfl
                · exact xb'.cell 0
                · exact xb'.cell 1
                · exact d1'
            clear hK K hC
            refine wpAnyC_done (by kernel_rfl) ?_ _
            clear xb xb' d1' hrow1 hdat1 U1 u1
            go_wp2
            go_roundw
            case rel => exact ⟨k + 1, by omega, by go_num, by rw [hs.out]; exact r1, U2⟩
            case measure => simp [intOf]; omega
          | false =>
            have hs : Hid (crashTo ks torn m D.uf D.dur (k + 1) = crashTo ks torn m D.uf D.dur k) := by have := hs0.out; rw [hkeep] at this; exact this
            rw [hkeep] at hcell
            clear hs0 U1
            go_upto_region 6 with fail
            rw [← HV.out, ← HG.out]
            go_wp2
            go_roundw
            case rel => exact ⟨k + 1, by omega, by go_num, by rw [hs.out]; exact hrow1, U1'⟩
            case measure => simp [intOf]; omega
        · have hs : Hid (crashTo ks torn m D.uf D.dur (k + 1) = crashTo ks torn m D.uf D.dur k) := by have := hs0.out; rw [keeps_ge (by rw [Hks.out]; exact hkn)] at this; exact this
          have hkn' : ¬ (k : Int) < (nk : Int) := by omega
          clear hs0 U1 hkc
          go_upto_region 6 with fail
          rw [← HV.out, ← HG.out]
          go_wp2
          go_roundw
          case rel => exact ⟨k + 1, by omega, by go_num, by rw [hs.out]; exact hrow1, U1'⟩
          case measure => simp [intOf]; omega
    · obtain rfl : k = n := by omega
      obtain ⟨hl, hu⟩ := H.out.emptied _ U hrow (by rw [crashTo_length D H.out.ok])
      have b2 := U.box H.out.box hgd
      have b3 := b2.store 2 (.slice none 0 0)
      have b4 := ((((b3.store 4 (.bool false)).store 5 (.bool false)).store 6 (.int .i64 0)).store 7 (.bool false)).store 8 (.int .i64 0)
      have gr := grown_trans (grown_trans (grown_trans (grown_trans (grown_store (wr.setCell ⟨g, 2, none⟩ (.slice none 0 0)) g 4 (.bool false)) (grown_store _ g 5 (.bool false))) (grown_store _ g 6 (.int .i64 0))) (grown_store _ g 7 (.bool false))) (grown_store _ g 8 (.int .i64 0))
      have hcr : D.crash ks torn m = { D with dur := crashTo ks torn m D.uf D.dur k, uf := [], gone := false, arm := ⟨false, 0⟩, fail := ⟨false, 0⟩ } := by unfold DS.crash; rw [Hn.out]
      have hl2 := hl.turned (D' := D.crash ks torn m) gr (by rw [hcr]; exact b4) (by rw [hcr]) (by rw [hcr]) (H.out.ok.crash ks torn m)
      have hu2 : Upd F w _ := hu.grown gr (fun q e => by cases e; exact .inl H.out.fg)
      have f2 := b2.frozen 2
      obtain ⟨_, _, k2, _, k4, k5, k6, k7, k8⟩ := box_cells b2
      have f4 := b3.frozen 4
      have f5 := b3.frozen 5
      have f6 := b3.frozen 6
      have f7 := b3.frozen 7
      have f8 := b3.frozen 8
      clear b2 b3 b4 gr hcr hl hu
      go_wp2
      go_ret
      exact ⟨rfl, ⟨_, _, _, _, hl2⟩, hu2⟩

theorem crash_none {g : Nat} {w : World} {D : DS} {F : Nat → Prop} {gd cd : Nat} {vu : Value} {ps : List (Nat × Nat × Nat)} (h : Lies w g D F gd cd vu ps) (h0 : D.uf.length = 0) (ak : Option Addr) (nk ck0 : Nat) (ks : List Bool) (torn : Int) (m : Nat) :
    Calls Try.prog 25 #[.pointer (some ⟨g, 0, none⟩), .slice ak nk ck0, .int .i64 torn, .int .u8 (m : Int)] w fun e w' => e = .returned (.int .i64 0) ∧ IsDisk w' g (D.crash ks torn m) F ∧ Upd F w w' := by
  have c := isMade_at h
  obtain ⟨av, cu, rfl⟩ : ∃ av cu, vu = .slice av 0 cu := by
    rcases h.row.2 with ⟨h1, _⟩ | ⟨gv, cu, cur, hv, _⟩
    · exact ⟨none, 0, h1⟩
    · exact ⟨some ⟨gv, 0, none⟩, cu, by rw [hv, h0]⟩
  have hcr : D.crash ks torn m = { D with dur := D.dur, uf := [], gone := false, arm := ⟨false, 0⟩, fail := ⟨false, 0⟩ } := by unfold DS.crash; rw [h0]; rfl
  obtain ⟨hl, hu⟩ := h.emptied D.dur (Upd.refl _ _) h.dur rfl
  have b2 := h.box
  have b3 := b2.store 2 (.slice none 0 0)
  have b4 := ((((b3.store 4 (.bool false)).store 5 (.bool false)).store 6 (.int .i64 0)).store 7 (.bool false)).store 8 (.int .i64 0)
  have gr := grown_trans (grown_trans (grown_trans (grown_trans (grown_store (w.setCell ⟨g, 2, none⟩ (.slice none 0 0)) g 4 (.bool false)) (grown_store _ g 5 (.bool false))) (grown_store _ g 6 (.int .i64 0))) (grown_store _ g 7 (.bool false))) (grown_store _ g 8 (.int .i64 0))
  have hl2 := hl.turned (D' := D.crash ks torn m) gr (by rw [hcr]; exact b4) (by rw [hcr]) (by rw [hcr]) (h.ok.crash ks torn m)
  have hu2 : Upd F w _ := hu.grown gr (fun q e => by cases e; exact .inl h.fg)
  have f2 := b2.frozen 2
  obtain ⟨_, _, k2, _, k4, k5, k6, k7, k8⟩ := box_cells b2
  have f4 := b3.frozen 4
  have f5 := b3.frozen 5
  have f6 := b3.frozen 6
  have f7 := b3.frozen 7
  have f8 := b3.frozen 8
  clear b2 b3 b4 gr hcr hl hu h0
  go_enter Try.func25, Try.ntmps25
  go_wp2_with fail
  refine c.mono ?_
  rintro e w' ⟨rfl, rfl⟩
  go_wp2_with fail
  refine wp_loop_rounds 1 ?_
  rw [rounds_succ]
  go_wp2
  go_ret
  exact ⟨rfl, ⟨_, _, _, _, hl2⟩, hu2⟩

/-- Crash -/
theorem crash_at {g : Nat} {w : World} {D : DS} {F : Nat → Prop} (hd : IsDisk w g D F) (ak : Option Addr) (nk ck0 : Nat) (ks : List Bool) (torn : Int) (m : Nat) (hm : m < 256) (hks : ks.length = nk) (hnk : nk ≤ 9223372036854775807) (hrk : RdBl w ak ks) (hkF : ∀ ad, ak = some ad → 0 < nk → ¬ F ad.block) :
    Calls Try.prog 25 #[.pointer (some ⟨g, 0, none⟩), .slice ak nk ck0, .int .i64 torn, .int .u8 (m : Int)] w fun e w' => e = .returned (.int .i64 0) ∧ IsDisk w' g (D.crash ks torn m) F ∧ Upd F w w' := by
  obtain ⟨gd, cd, vu, ps, h⟩ := hd
  by_cases h0 : 0 < D.uf.length
  · exact crashLoop h h0 ak nk ck0 ks torn m hm hks hnk hrk hkF
  · exact crash_none h (by omega) ak nk ck0 ks torn m
end Go.Proofs.Ytdkaacjeogifdaa.Dk

/-
  As Loads: but operations that wait for the taken one (late) may leave the class.
-/
namespace Go.Proofs.Ytdkaacjeogifdaa.Dk

section
variable {P : Program} {ops : Array Oper} {Q : Exit → Act → World → Prop} {md : Region.Mode} {C : Act → World → Prop} {late : List Nat}

/-- Whatever order the draw gives: it ends in Q, and every step stays in the class, but for the late ones. -/
def wpAnyD (P : Program) (md : Region.Mode) (ops : Array Oper) (Q : Exit → Act → World → Prop) (C : Act → World → Prop) (late : List Nat) : Nat → Array Bool → Act → World → Prop
  | 0, listed, a, w => Region.ready md ops listed = [] ∧ Q .normal a w
  | fuel + 1, listed, a, w => (Region.ready md ops listed = [] → Q .normal a w) ∧
    ∀ i ∈ Region.ready md ops listed, wpOp P ops Q i (fun a' w' => (late.contains i = true ∨ C a' w') ∧ wpAnyD P md ops Q C late fuel (listed.setIfInBounds i true) a' w') a w

theorem wpAny_of_late : ∀ (fuel : Nat) (listed : Array Bool) (a : Act) (w : World), wpAnyD P md ops Q C late fuel listed a w → wpAny P md ops Q fuel listed a w
  | 0, _, _, _, h => h
  | fuel + 1, _, _, _, h => ⟨h.1, fun i hi => wpOp_mono (fun a' w' h' => wpAny_of_late fuel _ a' w' h'.2) (h.2 i hi)⟩

/-- Each late operation waits for operation i. -/
def waits (md : Region.Mode) (ops : Array Oper) (late : List Nat) (i : Nat) : Bool := late.all fun j => match ops[j]? with | some o => o.after.any fun e => Region.binds md e && e.on == i | none => true

theorem wpAnyD_first {i : Nat} {oi : Oper} {v : Value} (hi : ops[i]? = some oi) (hs : Region.noSelect ops = true) (hl : waits md ops late i = true)
    (hQ : ∀ c a w, Q (.panic c) (a.put oi.dst v) w → Q (.panic c) a w) (hg : Gives P ops C oi v) (hdn : ∀ a w, C (a.put oi.dst v) w → C a w) (hup : ∀ a w, C a w → C (a.put oi.dst v) w) :
    ∀ (fuel : Nat) (listed : Array Bool) (a : Act) (w : World),
      (∀ j oj, ops[j]? = some oj → j ≠ i → listed.getD j true = false → (∀ e ∈ oj.after, Region.binds md e = true → e.on ≠ i) → oi.apart ops oj = true) →
      i ∈ Region.ready md ops listed → C a w →
      wpAnyD P md ops Q C late fuel (listed.setIfInBounds i true) (a.put oi.dst v) w → wpAnyD P md ops Q C late (fuel + 1) listed a w
  | fuel, listed, a, w, hfree, hr, hc, H => by
    refine ⟨fun h => (by rw [h] at hr; cases hr), fun j hj => ?_⟩
    by_cases hji : j = i
    · subst hji
      exact hg.wpOp hi hc ⟨.inr (hup a w hc), H⟩
    · have hm := ready_mono hj hji
      cases fuel with
      | zero =>
        rw [H.1] at hm
        cases hm
      | succ fuel =>
        obtain ⟨hjun, oj, hoj, hall⟩ := mem_ready.1 hj
        have hnot : ∀ e ∈ oj.after, Region.binds md e = true → e.on ≠ i := fun e he hb heq => by
          have h1 := hall e he hb
          have h0 := (mem_ready.1 hr).1
          rw [heq] at h1
          rcases Nat.lt_or_ge i listed.size with h' | h'
          · simp [h'] at h0 h1; rw [h0] at h1; cases h1
          · simp [Array.getElem?_eq_none h'] at h1
        have hnl : ¬ late.contains j = true := fun hc => by
          have h1 := (List.all_eq_true.1 hl) j (by simpa using hc)
          rw [hoj] at h1
          simp only [Array.any_eq_true, Bool.and_eq_true, beq_iff_eq] at h1
          obtain ⟨k, hk, hb, he⟩ := h1
          exact hnot _ (Array.getElem_mem hk) hb he
        have h2 := wpOp_put (oi := standIn oi v) (v := v) hoj (standIn_apart (hfree j oj hoj hji hjun hnot)) (fun cs b h => by cases h) (fun cs b => Region.noSelect_spec hs j oj cs b hoj) hQ (standIn_yields oi v a) (H.2 j hm)
        have hfree' : ∀ k ok, ops[k]? = some ok → k ≠ i → (listed.setIfInBounds j true).getD k true = false →
            (∀ e ∈ ok.after, Region.binds md e = true → e.on ≠ i) → oi.apart ops ok = true := fun k ok hk hki hun hno => by
          refine hfree k ok hk hki ?_ hno
          by_cases hjk : j = k
          · subst hjk; exact hjun
          · rw [getD_set_ne true hjk] at hun; exact hun
        refine wpOp_mono (fun a' w' h3 => ?_) h2
        have hc' := hdn a' w' (h3.2.1.resolve_left hnl)
        refine ⟨.inr hc', wpAnyD_first hi hs hl hQ hg hdn hup fuel (listed.setIfInBounds j true) a' w' hfree' (ready_mono hr (Ne.symm hji)) hc' ?_⟩
        rw [Array.setIfInBounds_comm _ _ hji]
        exact h3.2.2

/-- A load is taken first. -/
theorem wpAnyD_take {i : Nat} {oi : Oper} {v : Value} {fuel : Nat} {listed : Array Bool} {a : Act} {w : World} (hi : ops[i]? = some oi) (hs : Region.noSelect ops = true) (hl : waits md ops late i = true)
    (hf : Region.free md ops listed i = true) (hr : (Region.ready md ops listed).contains i = true)
    (hQ : ∀ c a w, Q (.panic c) (a.put oi.dst v) w → Q (.panic c) a w) (hg : Gives P ops C oi v) (hdn : ∀ a w, C (a.put oi.dst v) w → C a w) (hup : ∀ a w, C a w → C (a.put oi.dst v) w)
    (hc : C a w) (h : wpAnyD P md ops Q C late fuel (listed.setIfInBounds i true) (a.put oi.dst v) w) : wpAnyD P md ops Q C late (fuel + 1) listed a w :=
  wpAnyD_first hi hs hl hQ hg hdn hup fuel listed a w (Region.free_spec hi hf) (by simpa using hr) hc h

/-- One operation alone may come up. -/
theorem wpAnyD_one {i : Nat} {o : Oper} {fuel : Nat} {listed : Array Bool} {a : Act} {w : World} (hr : Region.ready md ops listed = [i]) (ho : ops[i]? = some o)
    (h : ∀ K' : Act → World → Prop, (∀ a w, ((late.contains i = true ∨ C a w) ∧ wpAnyD P md ops Q C late fuel (listed.setIfInBounds i true) a w) → K' a w) → if Region.wanted o (yielded ops a.tmps) = true then Oper.wp P o a w K' Q else K' (a.put o.dst undef) w) :
    wpAnyD P md ops Q C late (fuel + 1) listed a w := by
  refine ⟨fun h0 => (by rw [hr] at h0; cases h0), fun j hj => ?_⟩
  rw [hr] at hj
  obtain rfl : j = i := by simpa using hj
  exact wpOp_step ho h

theorem wpAnyD_done {listed : Array Bool} {a : Act} {w : World} (hr : Region.ready md ops listed = []) (h : Q .normal a w) : ∀ fuel, wpAnyD P md ops Q C late fuel listed a w
  | 0 => ⟨hr, h⟩
  | _ + 1 => ⟨fun _ => h, by rw [hr]; simp⟩
end
end Go.Proofs.Ytdkaacjeogifdaa.Dk

/-
  Write; Writes, Pending.
-/
namespace Go.Proofs.Ytdkaacjeogifdaa.Dk
open Go.RowKit

theorem info79 : (Try.prog.info? 93).map (fun i => (i.zero, i.size, i.bytes)) = some (some (.agg #[.int .i64 0, .slice none 0 0]), 2, 32) := by kernel_rfl

/-- An append leaves the row where it was, or lays it anew. -/
theorem append_where {P : Program} {w : World} {t ty e : TypeId} {i : TypeInfo} {z : Value} {size bytes : Nat} (ht : P.underlying t = some (.slice e)) (hi : P.info? e = some i) (hz : i.zero = some z) (hsize : i.size = size) (hby : i.bytes = bytes) (hzs : z.cells.size = size) (hsz : 0 < size)
    {v : Value} {n : Nat} {xs : List Value} (hown : w.ownsRow 0 e size v n xs) {ad : Addr} {m c : Nat} {news : List Value} (hl : news.length = m * size) (hnews : ∀ j u, news[j]? = some u → w.cell? (ad.add j) = some u) (h1 : ∀ u ∈ news, u.oneCell' = true)
    (h63 : n + m ≤ maxLen) (hbytes : (n + m) * bytes ≤ 140737488355328) :
    ∃ v' w', (Builtin.append_ #[t, t] ty #[v, .slice (some ad) m c]).run P w = .ok v' w' ∧ w'.ownsRow 0 e size v' (n + m) (xs ++ news) ∧ w.grownBy w' v.ownBlock ∧ (∀ k, v'.ownBlock = some k → v.ownBlock = some k ∨ w.heap.size ≤ k) := by
  obtain ⟨v', w', hr, h2, h3, _⟩ := run_append_own (P := P) w 0 t ty e i z size bytes ht hi hz hsize hby hzs hsz v n xs hown ad m c news hl hnews h1 h63 hbytes (Nat.zero_le _)
  refine ⟨v', w', hr, h2, h3, fun k hk => ?_⟩
  rcases hown.2 with ⟨rfl, rfl⟩ | ⟨g, cap, cur, rfl, hbg, hg, hnc, hcm, hcs, htake⟩
  · have hx : xs = [] := List.eq_nil_of_length_eq_zero (by simpa using hown.1)
    subst hx
    obtain ⟨v2, w2, hr2, o2, _⟩ := run_append_own (P := P) w w.heap.size t ty e i z size bytes ht hi hz hsize hby hzs hsz (.slice none 0 0) 0 [] (World.ownsRow_nil _ _ _ _) ad m c news hl hnews h1 h63 hbytes (Nat.le_refl _)
    rw [hr] at hr2
    simp only [Result.ok.injEq] at hr2
    obtain ⟨rfl, rfl⟩ := hr2
    exact .inr (o2.lt k hk).1
  · by_cases hroom : n + m ≤ cap
    · have hr2 := run_append_room (P := P) w t ty e i ht hi g n cap cur hg ad m c news (by rw [hsize]; exact hl) hnews h1 hroom (by rw [hsize, hl, hcs, ← Nat.add_mul]; exact Nat.mul_le_mul_right _ hroom)
      rw [hr] at hr2
      simp only [Result.ok.injEq] at hr2
      obtain ⟨rfl, _⟩ := hr2
      exact .inl hk
    · have hr2 := run_append_grow (P := P) w t ty e i z ht hi hz ⟨g, 0, none⟩ n cap xs (by rw [hsize]; exact hown.1) (hown.cells (g := g) rfl) ad m c news (by rw [hsize]; exact hl) hnews (by omega) (by simp only [maxLen] at h63; omega) (growslice_fits (by omega) (by rw [hby]; exact hbytes))
      rw [hr] at hr2
      simp only [Result.ok.injEq] at hr2
      obtain ⟨rfl, _⟩ := hr2
      simp [Value.ownBlock] at hk
      exact .inr (by omega)

/-- .. as one step of a region that draws its order. -/
theorem step_append_where {P : Program} {ops : Array Oper} {o : Oper} {a : Act} {w : World} {K : Act → World → Prop} {Q : Exit → Act → World → Prop} {E : Prop}
    (hg : o.guard = none) (s x : Operand) (t : TypeId) (hop : o.op = Op.call { callee := Callee.builtin Builtin.append, args := #[s, x], argTypes := #[t, t] })
    (e : TypeId) (i : TypeInfo) (z : Value) (size bytes : Nat) (h1 : P.underlying t = some (.slice e)) (h2 : P.info? e = some i) (h3 : i.zero = some z) (h4 : i.size = size) (h5 : i.bytes = bytes) (h6 : z.cells.size = size) (h7 : 0 < size)
    (v : Value) (n : Nat) (olds : List Value) (hs : a.eval s = v) (hown : w.ownsRow 0 e size v n olds)
    (ad : Addr) (m c : Nat) (news : List Value) (hx : a.eval x = .slice (some ad) m c) (hn : news.length = m * size) (hc : ∀ j u, news[j]? = some u → w.cell? (ad.add j) = some u) (h1c : ∀ u ∈ news, u.oneCell' = true)
    (b1 : n + m ≤ maxLen) (b2 : (n + m) * bytes ≤ 140737488355328)
    (hK : ∀ v' w', w'.ownsRow 0 e size v' (n + m) (olds ++ news) → w.grownBy w' v.ownBlock → (∀ k, v'.ownBlock = some k → v.ownBlock = some k ∨ w.heap.size ≤ k) → K (a.put o.dst v') w') :
    if Region.wanted o (yielded ops a.tmps) = true then Oper.wp P o a w K Q else E := by
  have hw : Region.wanted o (yielded ops a.tmps) = true := by simp [Region.wanted, hg]
  rw [if_pos hw]
  obtain ⟨v', w', hrun, r1, r2, r3⟩ := append_where (P := P) (ty := o.type) (c := c) h1 h2 h3 h4 h5 h6 h7 hown hn hc h1c b1 b2
  unfold Oper.wp
  simp [execOp, hop, resolve, invoke, builtin, hs, hx, hrun, Result.andThen]
  exact hK v' w' r1 r2 r3

/-- A write more stands in the row. -/
theorem Lies.added {w w3 w4 : World} {g : Nat} {D : DS} {F : Nat → Prop} {gd cd : Nat} {vu v' : Value} {ps : List (Nat × Nat × Nat)} (h : Lies w g D F gd cd vu ps) (hb : Below w.heap.size w w3) (bn gk ck : Nat) (b : List UInt8) (hrow : RowB w3 gk ck b) (hgk : w.heap.size ≤ gk) (hbn : bn < D.nb) (hbl : b.length = 4096)
    (ho : w4.ownsRow 0 93 2 v' (D.uf.length + 1) (wcs (ps ++ [(bn, gk, ck)]))) (hg : w3.grownBy w4 vu.ownBlock) (hv : ∀ k, v'.ownBlock = some k → vu.ownBlock = some k ∨ w.heap.size ≤ k) :
    ∃ F' : Nat → Prop, Lies (w4.setCell ⟨g, 2, none⟩ v') g { D with uf := D.uf ++ [(bn, b)] } F' gd cd v' (ps ++ [(bn, gk, ck)]) ∧ (∀ i, F' i → F i ∨ w.heap.size ≤ i) ∧ Upd F w (w4.setCell ⟨g, 2, none⟩ v') ∧ Box w4 g (diskC g (.slice (some ⟨gd, 0, none⟩) (D.nb * 4096) cd) vu D) 87 := by
  have h3 := h.below hb
  have gr := grown_store w4 g 2 v'
  have nrow : ∀ {q : Nat} {cs : Array Value} {t : TypeId}, Box w3 q cs t → t ≠ 93 → some q ≠ vu.ownBlock := by
    intro q cs t hq ht e
    rcases h3.row.2 with ⟨rfl, _⟩ | ⟨gv, cu, cur, rfl, _, hgv, _⟩
    · simp [Value.ownBlock] at e
    · simp [Value.ownBlock] at e
      subst e
      exact Box.ne (w := w3) hq hgv ht rfl
  have hbox4 : Box w4 g _ 87 := (hg.block g h3.box.lt (nrow h3.box (by decide))).trans h3.box
  have hrowB : ∀ {q c : Nat} {ys : List UInt8}, RowB w3 q c ys → RowB (w4.setCell ⟨g, 2, none⟩ v') q c ys := by
    intro q c ys hq
    have hq0 := hq
    obtain ⟨cur, hb1, _⟩ := hq
    have h4 := hq0.same (hg.block q hb1.lt (nrow hb1 (by decide)))
    obtain ⟨cur4, hb4, _⟩ := h4
    exact (hq0.same (hg.block q hb1.lt (nrow hb1 (by decide)))).same (gr.block q hb4.lt (by simpa using hb4.ne hbox4 (by decide)))
  have hkg : gk ≠ gd := by have := h.dur.lt; omega
  have hok : DS.Ok { D with uf := D.uf ++ [(bn, b)] } := ⟨h.ok.len, h.ok.lo, h.ok.hi, fun p hp => by
    rcases List.mem_append.1 hp with hp | hp
    · exact h.ok.each p hp
    · simp at hp; subst hp; exact ⟨hbn, hbl⟩, h.ok.arm, h.ok.fail⟩
  refine ⟨fun i => F i ∨ i = gk ∨ v'.ownBlock = some i, ⟨hbox4.store 2 v', hrowB h3.dur, ?_, ?_, ?_, .inl h.fg, .inl h.fd, fun k hk => .inr (.inr hk), ?_, hok⟩, ?_, ?_⟩
  · have ho' := ho.kept gr (by
      rcases ho.2 with ⟨rfl, _⟩ | ⟨gv, cu, cur, rfl, _, hgv, _⟩
      · exact .inl rfl
      · exact .inr (by simp only [Value.ownBlock, ne_eq, Option.some.injEq]; exact Box.ne (w := w4) (t := 93) hgv hbox4 (by decide)))
    show World.ownsRow _ _ _ _ _ (D.uf ++ [(bn, b)]).length _
    rw [List.length_append]
    exact ho'
  · show (ps ++ [(bn, gk, ck)]).length = (D.uf ++ [(bn, b)]).length
    simp [h.len]
  · intro k h1 h2
    have hl := h.len
    by_cases hk : k < ps.length
    · have hk2 : k < D.uf.length := by omega
      obtain ⟨a1, a2, a3, a4⟩ := h3.each k hk hk2
      have e1 : (ps ++ [(bn, gk, ck)])[k] = ps[k] := List.getElem_append_left hk
      have e2 : (D.uf ++ [(bn, b)])[k]'(by simp; omega) = D.uf[k] := List.getElem_append_left hk2
      show (ps ++ [(bn, gk, ck)])[k].1 = ((D.uf ++ [(bn, b)])[k]'(by simp; omega)).1 ∧ RowB _ (ps ++ [(bn, gk, ck)])[k].2.1 (ps ++ [(bn, gk, ck)])[k].2.2 ((D.uf ++ [(bn, b)])[k]'(by simp; omega)).2 ∧ _
      rw [e1, e2]
      exact ⟨a1, hrowB a2, a3, .inl a4⟩
    · have hke : k = ps.length := by simp at h1; omega
      subst hke
      have e1 : (ps ++ [(bn, gk, ck)])[ps.length] = (bn, gk, ck) := by simp
      have e2 : (D.uf ++ [(bn, b)])[ps.length]'(by simp; omega) = (bn, b) := by simp [hl]
      show (ps ++ [(bn, gk, ck)])[ps.length].1 = ((D.uf ++ [(bn, b)])[ps.length]'(by simp; omega)).1 ∧ RowB _ (ps ++ [(bn, gk, ck)])[ps.length].2.1 (ps ++ [(bn, gk, ck)])[ps.length].2.2 ((D.uf ++ [(bn, b)])[ps.length]'(by simp; omega)).2 ∧ _
      rw [e1, e2]
      exact ⟨rfl, hrowB hrow, hkg, .inr (.inl rfl)⟩
  · intro i hi
    have z1 := hb.size
    have z2 := hg.size
    have z3 := gr.size
    rcases hi with hi | rfl | hi
    · have := h.flt i hi; omega
    · have := hrow.lt; omega
    · have := (ho.lt i hi).2; omega
  · intro i hi
    rcases hi with hi | rfl | hi
    · exact .inl hi
    · exact .inr hgk
    · rcases hv i hi with h1 | h1
      · exact .inl (h.fu i h1)
      · exact .inr h1
  · have u1 : Upd F w w3 := Upd.of_below hb
    have u2 : Upd F w w4 := u1.grown hg (fun k hk => .inl (h.fu k hk))
    exact ⟨u2.setCell (.inl h.fg) _, hbox4⟩

def writeF (D : DS) : Prop := D.uf.length ≤ 1000000 ∧ D.n ≤ 1000000

set_option maxRecDepth 100000 in
set_option maxHeartbeats 2000000 in
theorem write_ok {g : Nat} {w : World} {D : DS} {F : Nat → Prop} {gd cd : Nat} {vu : Value} {ps : List (Nat × Nat × Nat)} (h : Lies w g D F gd cd vu ps) (bn cb : Nat) (ad : Addr) (b : List UInt8) (hb : b.length = 4096) (hbn : bn < D.nb) (hE : D.operE = 0) (hlim : writeF D) (hr : Rd w (some ad) b) (hF : ¬ F ad.block) :
    Calls Try.prog 20 #[.pointer (some ⟨g, 0, none⟩), .int .i64 (bn : Int), .slice (some ad) 4096 cb] w fun e w' => e = .returned (.int .i64 0) ∧ (∃ F', IsDisk w' g { D.oper with uf := D.uf ++ [(bn, b)], n := D.n + 1 } F' ∧ ∀ i, F' i → F i ∨ w.heap.size ≤ i) ∧ Upd F w w' := by
  have c := isMade_at h
  have cH := has_at h (bn : Int)
  have hhas : D.has (bn : Int) = true := by simp [DS.has]; omega
  rw [hhas] at cH
  have cO := operation_at h
  rw [hE] at cO
  obtain ⟨i0, hi, hz0, hz1, hz2⟩ := info_parts info79
  obtain ⟨l1, l2⟩ := hlim
  have Hb : Hid _ := hb
  have hfg := h.fg
  have Hnb : Hid _ := D.oper_nb
  have Huf : Hid _ := D.oper_uf
  have Hn : Hid _ := D.oper_n
  have hsp : ad = ⟨ad.block, ad.off, none⟩ := by
    obtain ⟨b', o', he, _⟩ := hr (by omega)
    obtain rfl := Option.some.inj he
    rfl
  obtain ⟨ab, ao, asp⟩ := ad
  simp only [Addr.mk.injEq, true_and] at hsp
  subst hsp
  clear hhas hE hb
  go_enter Try.func20, Try.ntmps20
  go_wp2_with fail
  refine c.mono ?_
  rintro e w' ⟨rfl, rfl⟩
  go_wp2_with fail
  refine cH.mono ?_
  rintro e w' ⟨rfl, rfl⟩
  go_wp2_with fail
  refine cO.mono ?_
  rintro e w1 ⟨rfl, h1, g1⟩
  have hr1 : Rd w1 (some ⟨ab, ao, none⟩) b := hr.upd ((Upd.refl F w).grown g1 (fun k e => by cases e; exact .inl hfg)) hF
  have U1 : Upd F w w1 := (Upd.refl F w).grown g1 (fun k e => by cases e; exact .inl hfg)
  clear c cH cO g1
  obtain ⟨_, _, c2, _⟩ := box_cells h1.box
  go_wp2_with fail
  refine wp_region_any (by kernel_rfl) ?_
  change wpAny _ _ _ _ _ _ _ (World.drew _)
  refine wpAny_take (i := 0) (v := ?_) rfl (by kernel_rfl) (by kernel_rfl) (by kernel_rfl) (fun _ _ _ h => h) (Or.inl ⟨by rfl, ?_⟩) ?_
  rotate_left
  · intro w
    go_simp
    with_reducible rfl
  refine wpAny_take (i := 1) (v := ?_) rfl (by kernel_rfl) (by kernel_rfl) (by kernel_rfl) (fun _ _ _ h => h) (Or.inl ⟨by rfl, ?_⟩) ?_
  rotate_left
  · intro w
    go_simp
    with_reducible rfl
  refine wpAny_take (i := 2) (v := ?_) rfl (by kernel_rfl) (by kernel_rfl) (by kernel_rfl) (fun _ _ _ h => h) (Or.inl ⟨by rfl, ?_⟩) ?_
  rotate_left
  · intro w
    go_simp
    with_reducible rfl
  refine wpAny_take (i := 3) (v := ?_) rfl (by kernel_rfl) (by kernel_rfl) (by kernel_rfl) (fun _ _ _ h => h) (Or.inl ⟨by rfl, ?_⟩) ?_
  rotate_left
  · intro w
    go_simp
    with_reducible rfl
  refine wpAny_take (i := 5) (v := ?_) rfl (by kernel_rfl) (by kernel_rfl) (by kernel_rfl) (fun _ _ _ h => h) (Or.inl ⟨by rfl, ?_⟩) ?_
  rotate_left
  · intro w
    go_simp
    with_reducible rfl
  refine wpAny_take (i := 6) (v := ?_) rfl (by kernel_rfl) (by kernel_rfl) (by kernel_rfl) (fun _ _ _ h => h) (Or.inl ⟨by rfl, ?_⟩) ?_
  rotate_left
  · intro w
    go_simp
    with_reducible rfl
  simp only [Act.put, List.setIfInBounds_toArray, List.set_cons_zero, List.set_cons_succ, List.getElem_toArray, List.getElem_cons_zero, List.getElem_cons_succ]
  have hvu : ∃ av cu, vu = .slice av D.uf.length cu := by
    have hrow := h.row
    rcases hrow.2 with ⟨h1, h2⟩ | ⟨gv, cu, cur, hv, _⟩
    · exact ⟨none, 0, by rw [h1, h2]⟩
    · exact ⟨some ⟨gv, 0, none⟩, cu, hv⟩
  obtain ⟨av, cu, rfl⟩ := hvu
  obtain ⟨n, hn⟩ : ∃ n, n = D.uf.length := ⟨_, rfl⟩
  rw [← hn] at h1 c2 l1
  have Hnn : Hid _ := hn
  clear hn
  refine wpAny_of_late (C := SlotsCells [(31, .pointer (some ⟨g, 2, none⟩))] [(⟨g, 2, none⟩, .slice av n cu)]) (late := [10, 11, 12, 13]) _ _ _ _ ?_
  have h2 : Lies w1.drew g D.oper F gd cd (.slice av n cu) ps := h1.below (Below.refl _ _).drew
  have c2d : w1.drew.cell? ⟨g, 2, none⟩ = some (.slice av n cu) := c2
  have hr2 : Rd w1.drew (some ⟨ab, ao, none⟩) b := hr1
  have U2 : Upd F w w1.drew := U1.drew
  have hgl : g < w1.drew.heap.size := h2.box.lt
  obtain ⟨W, hW⟩ : ∃ W, W = w1.drew := ⟨_, rfl⟩
  rw [← hW] at h2 c2d hr2 U2 hgl ⊢
  clear hW h1 c2 hr1 U1
  refine wpAnyD_take (i := 4) (v := .slice av n cu) rfl (by kernel_rfl) (by kernel_rfl) (by kernel_rfl) (by kernel_rfl) (fun _ _ _ h => h) ?_ (fun fr u h => (SlotsCells.put 32 _ (by rfl)).1 h) (fun fr u h => (SlotsCells.put 32 _ (by rfl)).2 h) ?_ ?_
  · intro fr u hh
    obtain ⟨e1, e2⟩ := hh.load (s := 31) (p := ⟨g, 2, none⟩) (v := .slice av n cu) (by simp) (by simp)
    exact ⟨rfl, by simp [execOp, e1, go_sem, e2]⟩
  · refine ⟨fun p hp => ?_, fun q hq => ?_⟩
    · simp at hp
      subst hp
      rfl
    · simp at hq
      subst hq
      exact c2d
  simp only [Act.put, List.setIfInBounds_toArray, List.set_cons_zero, List.set_cons_succ, List.getElem_toArray, List.getElem_cons_zero, List.getElem_cons_succ]
  refine wpAnyD_one (i := 7) (by kernel_rfl) rfl (fun K hK => ?_)
  go_simp
  refine (clone_at cb 4096 ⟨ab, ao, none⟩ b W Hb.out (by omega) (by omega) hr2).mono ?_
  rintro e w2 ⟨gk, ck, rfl, hgk, rk, b2⟩
  have c2e := (b2.cell (p := ⟨g, 2, none⟩) hgl).trans c2d
  refine hK _ _ ⟨?_, ?_⟩
  · refine .inr ⟨fun p hp => ?_, fun q hq => ?_⟩
    · simp at hp
      subst hp
      rfl
    · simp at hq
      subst hq
      exact c2e
  clear hK K
  refine wpAnyD_one (i := 8) (by kernel_rfl) rfl (fun K hK => ?_)
  go_simp
  refine hK _ _ ⟨?_, ?_⟩
  · refine .inr ⟨fun p hp => ?_, fun q hq => ?_⟩
    · simp at hp
      subst hp
      rfl
    · simp at hq
      subst hq
      exact c2e
  clear hK K
  have bA := (Below.refl w2.heap.size w2).alloc (Nat.le_refl _) (.cells #[.int .i64 (bn : Int), .slice (some ⟨gk, 0, none⟩) 4096 ck] 93)
  have x3 := Box.new w2 #[.int .i64 (bn : Int), .slice (some ⟨gk, 0, none⟩) 4096 ck] 93
  have rk3 := rk.same (bA.block gk rk.lt)
  have B3 := b2.trans (bA.mono b2.size)
  have c2f := (B3.cell (p := ⟨g, 2, none⟩) hgl).trans c2d
  refine wpAnyD_one (i := 9) (by kernel_rfl) rfl (fun K hK => ?_)
  go_simp
  refine hK _ _ ⟨?_, ?_⟩
  · refine .inr ⟨fun p hp => ?_, fun q hq => ?_⟩
    · simp at hp
      subst hp
      rfl
    · simp at hq
      subst hq
      exact c2f
  clear hK K
  obtain ⟨V, hV⟩ : ∃ V, V = w2.alloc (.cells #[.int .i64 (bn : Int), .slice (some ⟨gk, 0, none⟩) 4096 ck] 93) := ⟨_, rfl⟩
  obtain ⟨G, hG⟩ : ∃ G, G = w2.heap.size := ⟨_, rfl⟩
  rw [← hV] at x3 rk3 B3 c2f ⊢
  rw [← hG] at x3 ⊢
  clear hV hG bA c2e rk b2
  have h3 := h2.below B3
  have row3 : V.ownsRow 0 93 2 (.slice av n cu) n (wcs ps) := by
    have := h3.row
    rw [Huf.out, ← Hnn.out] at this
    exact this
  refine wpAnyD_one (i := 10) (by kernel_rfl) rfl (fun K hK => ?_)
  refine step_append_where rfl (.tmp 32) (.tmp 37) 85 rfl 93 i0 (.agg #[.int .i64 0, .slice none 0 0]) 2 32 Try.underlying85 hi hz0 hz1 hz2 rfl (by decide) (.slice av n cu) n (wcs ps) rfl row3 ⟨G, 0, none⟩ 1 1 [.int .i64 (bn : Int), .slice (some ⟨gk, 0, none⟩) 4096 ck] rfl rfl ?_ ?_ (by unfold maxLen; omega) (by omega) ?_
  · intro j u hj
    match j, hj with
    | 0, hj => simp at hj; subst hj; rw [Addr.add_lit]; exact x3.cell 0
    | 1, hj => simp at hj; subst hj; rw [Addr.add_lit]; exact x3.cell 1
  · intro u hu
    simp at hu
    rcases hu with rfl | rfl <;> rfl
  intro v4 w4 o4 g4 hw4
  have hVs : W.heap.size ≤ V.heap.size := B3.size
  obtain ⟨F', hl, hF', hu, hbx⟩ := h2.added B3 bn gk ck b rk3 hgk (by rw [Hnb.out]; exact hbn) Hb.out (by rw [wcs_snoc, Huf.out, ← Hnn.out]; exact o4) g4 (fun k hk => by rcases hw4 k hk with h | h; exact .inl h; exact .inr (by omega))
  have hv4 : ∃ av cu, v4 = .slice av (n + 1) cu := by
    rcases o4.2 with ⟨_, h2⟩ | ⟨gv, cu, cur, hv, _⟩
    · omega
    · exact ⟨some ⟨gv, 0, none⟩, cu, hv⟩
  obtain ⟨av4, cu4, rfl⟩ := hv4
  refine hK _ _ ⟨.inl rfl, ?_⟩
  clear hK K o4 g4 hw4 row3 h3 x3 rk3
  simp only [Act.put, List.setIfInBounds_toArray]
  refine wpAnyD_one (i := 11) (by kernel_rfl) rfl (fun K hK => ?_)
  go_simp
  refine hK _ _ ⟨.inl rfl, ?_⟩
  clear hK K
  refine wpAnyD_one (i := 12) (by kernel_rfl) rfl (fun K hK => ?_)
  go_simp
  refine hK _ _ ⟨.inl rfl, ?_⟩
  clear hK K
  have f2 := hbx.frozen 2
  obtain ⟨_, _, k2, _⟩ := box_cells hbx
  refine wpAnyD_one (i := 13) (by kernel_rfl) rfl (fun K hK => ?_)
  go_simp
  refine hK _ _ ⟨.inl rfl, ?_⟩
  clear hK K f2 k2
  refine wpAnyD_done (by kernel_rfl) ?_ _
  generalize w4.setCell ⟨g, 2, none⟩ (.slice av4 (n + 1) cu4) = X at hl hu ⊢
  obtain ⟨_, _, _, k3, _⟩ := box_cells hl.box
  have f3 := hl.box.frozen 3
  dsimp only at k3
  rw [Hn.out] at k3
  have b5 := hl.box.store 3 (.int .i64 ((D.n : Int) + 1))
  have g5 := grown_store X g 3 (.int .i64 ((D.n : Int) + 1))
  have hn1 : (((D.n + 1 : Nat)) : Int) = (D.n : Int) + 1 := by omega
  have hl5 := hl.turned (D' := { D.oper with uf := D.oper.uf ++ [(bn, b)], n := D.n + 1 }) g5 (by rw [← hn1] at b5; rw [← hn1]; exact b5) rfl rfl ⟨hl.ok.len, hl.ok.lo, hl.ok.hi, hl.ok.each, hl.ok.arm, hl.ok.fail⟩
  rw [Huf.out] at hl5
  have u5 : Upd F w _ := (U2.trans hu (fun i hi => .inl hi)).grown g5 (fun k e => by cases e; exact .inl hfg)
  have hWs : w.heap.size ≤ W.heap.size := U2.size
  clear b5 g5 hn1 hl hu hbx
  go_wp2
  go_ret
  exact ⟨rfl, ⟨F', ⟨_, _, _, _, hl5⟩, fun i hi => by rcases hF' i hi with h | h; exact .inl h; exact .inr (by omega)⟩, u5⟩
end Go.Proofs.Ytdkaacjeogifdaa.Dk

/-
  Write whatever it is given; Writes, Pending.
-/
namespace Go.Proofs.Ytdkaacjeogifdaa.Dk
open Go.RowKit

set_option maxRecDepth 100000 in
theorem write_not {g : Nat} {w : World} {D : DS} {F : Nat → Prop} {gd cd : Nat} {vu : Value} {ps : List (Nat × Nat × Nat)} (h : Lies w g D F gd cd vu ps) (n : Int) (a : Option Addr) (len cb : Nat) (hn : D.has n = false) :
    Calls Try.prog 20 #[.pointer (some ⟨g, 0, none⟩), .int .i64 n, .slice a len cb] w fun e w' => e = .returned (.int .i64 70) ∧ w = w' := by
  have c := isMade_at h
  have cH := has_at h n
  rw [hn] at cH
  go_enter Try.func20, Try.ntmps20
  go_wp2_with fail
  refine c.mono ?_
  rintro e w' ⟨rfl, rfl⟩
  go_wp2_with fail
  refine cH.mono ?_
  rintro e w' ⟨rfl, rfl⟩
  go_wp2
  go_ret
  exact ⟨rfl, rfl⟩
set_option maxRecDepth 100000 in
theorem write_len {g : Nat} {w : World} {D : DS} {F : Nat → Prop} {gd cd : Nat} {vu : Value} {ps : List (Nat × Nat × Nat)} (h : Lies w g D F gd cd vu ps) (n : Int) (a : Option Addr) (len cb : Nat) (hn : D.has n = true) (hl : len ≠ 4096) :
    Calls Try.prog 20 #[.pointer (some ⟨g, 0, none⟩), .int .i64 n, .slice a len cb] w fun e w' => e = .returned (.int .i64 2) ∧ w = w' := by
  have c := isMade_at h
  have cH := has_at h n
  rw [hn] at cH
  have hl' : ((len : Int) != 4096) = true := by simp; omega
  go_enter Try.func20, Try.ntmps20
  go_wp2_with fail
  refine c.mono ?_
  rintro e w' ⟨rfl, rfl⟩
  go_wp2_with fail
  refine cH.mono ?_
  rintro e w' ⟨rfl, rfl⟩
  go_wp2
  go_ret
  exact ⟨rfl, rfl⟩
set_option maxRecDepth 100000 in
theorem write_stop {g : Nat} {w : World} {D : DS} {F : Nat → Prop} {gd cd : Nat} {vu : Value} {ps : List (Nat × Nat × Nat)} (h : Lies w g D F gd cd vu ps) (n : Int) (a : Option Addr) (cb : Nat) (hn : D.has n = true) (hE : D.operE ≠ 0) :
    Calls Try.prog 20 #[.pointer (some ⟨g, 0, none⟩), .int .i64 n, .slice a 4096 cb] w fun e w' => e = .returned (.int .i64 (D.operE : Int)) ∧ Lies w' g D.oper F gd cd vu ps ∧ w.grownBy w' (some g) := by
  have c := isMade_at h
  have cH := has_at h n
  rw [hn] at cH
  have cO := operation_at h
  generalize D.operE = E at cO hE ⊢
  have hE' : ((E : Int) != 0) = true := by simp; omega
  go_enter Try.func20, Try.ntmps20
  go_wp2_with fail
  refine c.mono ?_
  rintro e w' ⟨rfl, rfl⟩
  go_wp2_with fail
  refine cH.mono ?_
  rintro e w' ⟨rfl, rfl⟩
  go_wp2_with fail
  refine cO.mono ?_
  rintro e w1 ⟨rfl, h1, g1⟩
  go_wp2
  go_ret
  exact ⟨rfl, h1, g1⟩

/-- Write -/
theorem write_at {g : Nat} {w : World} {D : DS} {F : Nat → Prop} (hd : IsDisk w g D F) (n : Int) (a : Option Addr) (len cb : Nat) (b : List UInt8) (hb : b.length = len) (hlim : writeF D) (hr : Rd w a b) (hF : ∀ ad, a = some ad → ¬ F ad.block) :
    Calls Try.prog 20 #[.pointer (some ⟨g, 0, none⟩), .int .i64 n, .slice a len cb] w fun e w' => e = .returned (.int .i64 (D.writeE n b : Int)) ∧ (∃ F', IsDisk w' g (D.write n b) F' ∧ ∀ i, F' i → F i ∨ w.heap.size ≤ i) ∧ Upd F w w' := by
  obtain ⟨gd, cd, vu, ps, h⟩ := hd
  cases hh : D.has n with
  | false =>
    have e1 : D.writeE n b = 70 := by simp [DS.writeE, hh]
    have e2 : D.write n b = D := by simp [DS.write, hh]
    rw [e1, e2]
    refine (write_not h n a len cb hh).mono ?_
    rintro e w' ⟨rfl, rfl⟩
    exact ⟨rfl, ⟨F, ⟨_, _, _, _, h⟩, fun i hi => .inl hi⟩, Upd.refl _ _⟩
  | true =>
    by_cases hl : len = 4096
    · subst hl
      by_cases hE : D.operE = 0
      · have hn : 0 ≤ n ∧ n < D.nb := by simpa [DS.has] using hh
        obtain ⟨bn, rfl⟩ := Int.eq_ofNat_of_zero_le hn.1
        have e1 : D.writeE bn b = 0 := by simp [DS.writeE, hh, hb, hE]
        have e2 : D.write bn b = { D.oper with uf := D.uf ++ [(bn, b)], n := D.n + 1 } := by simp [DS.write, hh, hb, hE]
        rw [e1, e2]
        obtain ⟨b', o', rfl, _⟩ := hr (by omega)
        exact write_ok h bn cb _ b hb (by omega) hE hlim hr (hF _ rfl)
      · have e1 : D.writeE n b = D.operE := by simp [DS.writeE, hh, hb]
        have e2 : D.write n b = D.oper := by simp [DS.write, hh, hb, hE]
        rw [e1, e2]
        refine (write_stop h n a cb hh hE).mono ?_
        rintro e w' ⟨rfl, h1, g1⟩
        exact ⟨rfl, ⟨F, ⟨_, _, _, _, h1⟩, fun i hi => .inl hi⟩, (Upd.refl F w).grown g1 (fun k e => by cases e; exact .inl h.fg)⟩
    · have e1 : D.writeE n b = 2 := by simp [DS.writeE, hh, hb, hl]
      have e2 : D.write n b = D := by simp [DS.write, hh, hb, hl]
      rw [e1, e2]
      refine (write_len h n a len cb hh hl).mono ?_
      rintro e w' ⟨rfl, rfl⟩
      exact ⟨rfl, ⟨F, ⟨_, _, _, _, h⟩, fun i hi => .inl hi⟩, Upd.refl _ _⟩

theorem writes_at {g : Nat} {w : World} {D : DS} {F : Nat → Prop} (hd : IsDisk w g D F) :
    Calls Try.prog 17 #[.pointer (some ⟨g, 0, none⟩)] w fun e w' => e = .returned (.int .i64 (D.n : Int)) ∧ w = w' := by
  obtain ⟨gd, cd, vu, ps, h⟩ := hd
  have c := isMade_at h
  obtain ⟨_, _, _, c3, _⟩ := box_cells h.box
  go_enter Try.func17, Try.ntmps17
  go_wp2_with fail
  refine c.mono ?_
  rintro e w' ⟨rfl, rfl⟩
  go_wp2
  go_ret
  exact ⟨rfl, rfl⟩
theorem size_of {g : Nat} {w : World} {D : DS} {F : Nat → Prop} (hd : IsDisk w g D F) :
    Calls Try.prog 37 #[.pointer (some ⟨g, 0, none⟩)] w fun e w' => e = .returned (.int .i64 (D.nb : Int)) ∧ w = w' := by
  obtain ⟨gd, cd, vu, ps, h⟩ := hd
  exact size_at h

def ic (k : Nat) : Value := .int .i64 (k : Int)
theorem info3 : (Try.prog.info? 3).map (fun i => (i.zero, i.size, i.bytes)) = some (some (.int .i64 0), 1, 8) := by kernel_rfl

/-- the blocks of the first k writes -/
def pend (uf : List (Nat × List UInt8)) (k : Nat) : List Value := ((uf.take k).map (·.1)).map ic
theorem pend_succ (uf : List (Nat × List UInt8)) (k : Nat) (h : k < uf.length) : pend uf (k + 1) = pend uf k ++ [.int .i64 (uf[k].1 : Int)] := by
  unfold pend
  rw [List.take_succ_eq_append_getElem h, List.map_append, List.map_append]
  rfl
theorem pend_all (uf : List (Nat × List UInt8)) : pend uf uf.length = (uf.map (·.1)).map ic := by unfold pend; rw [List.take_length]

set_option maxRecDepth 100000 in
theorem pending_at {g : Nat} {w : World} {D : DS} {F : Nat → Prop} (hd : IsDisk w g D F) (hlim : D.uf.length ≤ 1000000) :
    Calls Try.prog 18 #[.pointer (some ⟨g, 0, none⟩)] w fun e w' => ∃ v, e = .returned v ∧ w'.ownsRow w.heap.size 3 1 v D.uf.length (pend D.uf D.uf.length) ∧ Below w.heap.size w w' := by
  obtain ⟨gd, cd, vu, ps, h⟩ := hd
  have c := isMade_at h
  obtain ⟨_, _, c2, _⟩ := box_cells h.box
  obtain ⟨i0, hi, hz0, hz1, hz2⟩ := info_parts info3
  by_cases h0 : 0 < D.uf.length
  · obtain ⟨gv, cu, cur, rfl, hcu, hmu, hbv, hcells⟩ := h.writes h0
    have Hcells : Hid _ := hcells
    have hlt := hbv.lt
    have Hlen : Hid _ := h.len
    obtain ⟨n, hn⟩ : ∃ n, n = D.uf.length := ⟨_, rfl⟩
    rw [← hn] at hcu c2 hlim ⊢
    have Hn : Hid _ := hn
    clear hcells h hn h0
    go_enter Try.func18, Try.ntmps18
    go_wp2_with fail
    refine c.mono ?_
    rintro e w' ⟨rfl, rfl⟩
    clear c
    go_wp2_with fail
    go_loopw [3, 14] (fun v i wr => ∃ k : Nat, k ≤ n ∧ i = .int .i64 k ∧ wr.ownsRow w.heap.size 3 1 v k (pend D.uf k) ∧ Below w.heap.size w wr) (fun _ i _ => n - (intOf i).toNat)
    case atStart => exact ⟨0, Nat.zero_le _, rfl, World.ownsRow_nil _ _ _ _, Below.refl _ _⟩
    case round =>
      obtain ⟨k, hk, rfl, hown, hbel⟩ := hrel
      by_cases hlt' : k < n
      · have hk' : k < D.uf.length := by rw [← Hn.out]; exact hlt'
        obtain ⟨a0, a1⟩ := Hcells.out k hk' (by rw [Hlen.out]; exact hk')
        have hsucc : Hid _ := pend_succ D.uf k hk'
        generalize (ps[k]'(by rw [Hlen.out]; exact hk')).2.1 = gk at a1
        generalize (ps[k]'(by rw [Hlen.out]; exact hk')).2.2 = ck at a1
        generalize (D.uf[k]'hk').1 = bn at a0 hsucc
        have a0' := (hbel.cell (p := ⟨gv, 0 + k * 2, none⟩) hlt).trans a0
        have a1' := (hbel.cell (p := ⟨gv, 0 + k * 2 + 1, none⟩) hlt).trans a1
        simp only [Nat.zero_add] at a0' a1'
        have z3 := hbel.size
        have own1 := (hown.alloc (.cells #[.int .i64 (bn : Int), .slice (some ⟨gk, 0, none⟩) 4096 ck] 93)).alloc (.cells #[.int .i64 (bn : Int)] 3)
        clear a0 a1
        go_wp2_with (at_builtin; refine wpList_append_own _ rfl _ _ 28 rfl w.heap.size 3 i0 (.int .i64 0) 1 8 Try.underlying28 hi hz0 hz1 hz2 rfl (by decide) _ k _ rfl own1 ⟨wr.heap.size + 1, 0, none⟩ 1 1 [.int .i64 (bn : Int)] rfl rfl ?c1 ?c2 ?c3 ?c4 ?c5 ?_)
        case c1 =>
          intro i u hi'
          match i, hi' with
          | 0, hi' => simp at hi'; subst hi'; simp [Addr.add]
        case c2 => intro u hu; simp at hu; subst hu; rfl
        case c3 => unfold maxLen; omega
        case c4 => omega
        case c5 => simp; omega
        · intro v' w4 hown4 hgrow _
          have B4 : Below w.heap.size w w4 := ((hbel.alloc z3 _).alloc (by simp; omega) _).grown hgrow (by simp; omega) (fun k hk => (hown.lt k hk).1)
          rw [← hsucc.out] at hown4
          clear hown hbel hgrow own1
          go_wp2
          go_roundw
          case rel => exact ⟨k + 1, by omega, by go_num, hown4, B4⟩
          case measure => simp [intOf]; omega
      · obtain rfl : k = n := by omega
        go_wp2
        go_ret
        exact ⟨_, rfl, hown, hbel⟩
  · have hn : D.uf.length = 0 := by omega
    rw [hn]
    have hp0 : pend D.uf 0 = [] := rfl
    rw [hp0]
    obtain ⟨av, cu, rfl⟩ : ∃ av cu, vu = .slice av 0 cu := by
      rcases h.row.2 with ⟨h1, _⟩ | ⟨gv, cu, cur, hv, _⟩
      · exact ⟨none, 0, h1⟩
      · exact ⟨some ⟨gv, 0, none⟩, cu, by rw [hv, hn]⟩
    clear h hn h0 hlim hp0
    go_enter Try.func18, Try.ntmps18
    go_wp2_with fail
    refine c.mono ?_
    rintro e w' ⟨rfl, rfl⟩
    go_wp2_with fail
    refine wp_loop_rounds 1 ?_
    rw [rounds_succ]
    go_wp2
    go_ret
    exact ⟨_, rfl, World.ownsRow_nil _ _ _ _, Below.refl _ _⟩
end Go.Proofs.Ytdkaacjeogifdaa.Dk

/-
  lay: images are written in order, then the disk is flushed.
-/
namespace Go.Proofs.Ytdkaacjeogifdaa.H
open Go.RowKit
open Go.Proofs.Ytdkaacjeogifdaa.Dk (Box Upd IsDisk DS Rd)

/-- images with their bytes -/
abbrev ImD := (Int × Option Addr × Nat × Nat) × List UInt8
def pl (L : List ImD) : List (Int × List UInt8) := L.map fun p => (p.1.1, p.2)
structure ImsD (w : World) (a : Option Addr) (L : List ImD) (F : Nat → Prop) : Prop where
  cells : CellsI w a (L.map (·.1))
  data : ∀ p ∈ L, Rd w p.1.2.1 p.2 ∧ p.2.length = p.1.2.2.1 ∧ ∀ ad, p.1.2.1 = some ad → ad.block < w.heap.size ∧ ¬ F ad.block
  out : ∀ ad, a = some ad → ¬ F ad.block
theorem rd_upd {F : Nat → Prop} {w w' : World} {a : Option Addr} {xs : List UInt8} (h : Rd w a xs) (hu : Upd F w w') (hg : ∀ ad, a = some ad → ¬ F ad.block) : Rd w' a xs := fun hp => by
  obtain ⟨b, o, rfl, hc⟩ := h hp
  exact (Dk.Rd.upd (fun _ => ⟨b, o, rfl, hc⟩) hu (hg _ rfl)) hp

set_option maxRecDepth 100000 in
set_option maxHeartbeats 4000000 in
theorem lay_at {g : Nat} {w : World} {D : DS} {F : Nat → Prop} (hd : IsDisk w g D F) (a : Option Addr) (n c : Nat) (L : List ImD) (hl : L.length = n) (hn : n ≤ 1000) (hI : ImsD w a L F) (hlim : D.uf.length ≤ 900000 ∧ D.n ≤ 900000) :
    Calls Try.prog 40 #[.pointer (some ⟨g, 0, none⟩), .slice a n c] w fun e w' => e = .returned (.int .i64 ((layD (pl L) D).2 : Int)) ∧ (∃ F', IsDisk w' g (layD (pl L) D).1 F' ∧ ∀ i, F' i → F i ∨ w.heap.size ≤ i) ∧ Upd F w w' := by
  have HI : Hid (ImsD w a L F) := hI
  have HL : Hid (L.length = n) := hl
  have HLim : Hid (D.uf.length ≤ 900000 ∧ D.n ≤ 900000) := hlim
  have HD : Hid (IsDisk w g D F) := hd
  clear hI hl hlim hd
  go_enter Try.func40, Try.ntmps40
  go_wp2_with fail
  go_loopw [10] (fun i u => ∃ (k : Nat) (E : DS) (F' : Nat → Prop), k ≤ n ∧ i = .int .i64 (k : Int) ∧ IsDisk u g E F' ∧ (∀ i, F' i → F i ∨ w.heap.size ≤ i) ∧ Upd F w u ∧ layD (pl L) D = layD ((pl L).drop k) E ∧ E.uf.length ≤ D.uf.length + k ∧ E.n ≤ D.n + k) (fun i _ => n - (intOf i).toNat)
  case atStart => exact ⟨0, D, F, Nat.zero_le _, rfl, HD.out, fun i h => .inl h, Upd.refl _ _, by simp, by omega, by omega⟩
  case round =>
    obtain ⟨k, E, F', hk, rfl, hd, hF', U, hlay, hu, hn2⟩ := hrel
    have HDk : Hid (IsDisk wr g E F') := hd
    have HF : Hid (∀ i, F' i → F i ∨ w.heap.size ≤ i) := hF'
    have HLay : Hid (layD (pl L) D = layD ((pl L).drop k) E) := hlay
    have HB : Hid (E.uf.length ≤ D.uf.length + k ∧ E.n ≤ D.n + k) := ⟨hu, hn2⟩
    clear hd hF' hlay hu hn2
    by_cases hlt : k < n
    · have hki : (k : Int) < (n : Int) := by omega
      have hkl : k < L.length := by rw [HL.out]; exact hlt
      obtain ⟨b, o, rfl, hcc⟩ := HI.out.cells (by rw [List.length_map]; omega)
      obtain ⟨c0, c1⟩ := hcc k (by rw [List.length_map]; exact hkl)
      obtain ⟨hr, hlen, hno⟩ := HI.out.data L[k] (List.getElem_mem hkl)
      have hdrop : Hid ((pl L).drop k = (L[k].1.1, L[k].2) :: (pl L).drop (k + 1)) := by
        show _ = _
        have h1 : k < (pl L).length := by simp [pl]; exact hkl
        rw [List.drop_eq_getElem_cons h1]
        simp [pl]
      simp only [List.getElem_map] at c0 c1
      generalize (L[k]'hkl) = q at c0 c1 hr hlen hno hdrop
      obtain ⟨⟨qb, qa, qn, qc⟩, xs⟩ := q
      dsimp only at c0 c1 hr hlen hno hdrop
      have nb := HI.out.out _ rfl
      have l0 := block_lt_of_cell c0
      have x0 : wr.cell? ⟨b, o + k * 2, none⟩ = some (.int .i64 qb) := (World.cell?_of_block (a := ⟨b, o + k * 2, none⟩) (U.block b l0 nb)).trans c0
      have x1 : wr.cell? ⟨b, o + k * 2 + 1, none⟩ = some (.slice qa qn qc) := (World.cell?_of_block (a := ⟨b, o + k * 2 + 1, none⟩) (U.block b l0 nb)).trans c1
      have bx := Box.new wr #[.int .i64 qb, .slice qa qn qc] 37
      have bA := (Below.refl wr.heap.size wr).alloc (Nat.le_refl _) (.cells #[.int .i64 qb, .slice qa qn qc] 37)
      have U1 := U.alloc (.cells #[.int .i64 qb, .slice qa qn qc] 37)
      have y0 := bx.cell 0
      have y1 := bx.cell 1
      simp only [List.getElem?_toArray, List.getElem?_cons_zero, List.getElem?_cons_succ] at y0 y1
      have hnoF' : ∀ ad, qa = some ad → ¬ F' ad.block := fun ad e hf => by
        rcases HF.out _ hf with h1 | h1
        · exact (hno ad e).2 h1
        · exact absurd (hno ad e).1 (Nat.not_lt.2 h1)
      have cW := Dk.write_at (HDk.out.below bA) qb qa qn qc xs hlen ⟨by have := HB.out.1; have := HLim.out.1; omega, by have := HB.out.2; have := HLim.out.2; omega⟩ ((rd_upd hr U (fun ad e => (hno ad e).2)).below bA (Nat.le_refl _)) hnoF'
      have hle := write_le E qb xs
      clear hcc c0 c1 l0 bx hr nb
      have HW : Hid ((E.write qb xs).nb = E.nb ∧ (E.write qb xs).uf.length ≤ E.uf.length + 1 ∧ (E.write qb xs).n ≤ E.n + 1) := hle
      have hE2 : Hid (layD (pl L) D = if E.writeE qb xs = 0 then layD ((pl L).drop (k + 1)) (E.write qb xs) else (E.write qb xs, E.writeE qb xs)) := by
        show _ = _
        rw [HLay.out, hdrop.out]
        rfl
      clear hle HLay hdrop
      by_cases he : E.writeE qb xs = 0
      · rw [he] at cW
        have hE3 : Hid (layD (pl L) D = layD ((pl L).drop (k + 1)) (E.write qb xs)) := hE2.out.trans (if_pos he)
        clear hE2 he
        go_wp2_with fail
        refine Calls.mono cW ?_
        rintro r u ⟨rfl, ⟨F2, hd2, hF2⟩, U2⟩
        have U3 : Upd F w u := U1.trans U2 (fun i h => HF.out i h)
        clear cW y0 y1 x0 x1
        go_wp2_with fail
        go_roundw
        case rel => exact ⟨k + 1, _, F2, by omega, by push_cast; rfl, hd2, fun i hi => by
            rcases hF2 i hi with h1 | h1
            · exact HF.out i h1
            · exact .inr (Nat.le_trans U1.size h1), U3, hE3.out, by have := HW.out.2.1; have := HB.out.1; omega, by have := HW.out.2.2; have := HB.out.2; omega⟩
        case measure => simp [intOf]; omega
      · have hE3 : Hid (layD (pl L) D = (E.write qb xs, E.writeE qb xs)) := hE2.out.trans (if_neg he)
        have hne : ((E.writeE qb xs : Int) != 0) = true := by simp; omega
        generalize E.writeE qb xs = ee at cW hE3 hne
        clear hE2 he
        go_wp2_with fail
        refine Calls.mono cW ?_
        rintro r u ⟨rfl, ⟨F2, hd2, hF2⟩, U2⟩
        have U3 : Upd F w u := U1.trans U2 (fun i h => HF.out i h)
        clear cW y0 y1 x0 x1
        go_wp2_with fail
        go_ret
        rw [hE3.out]
        exact ⟨rfl, ⟨F2, hd2, fun i hi => by
            rcases hF2 i hi with h1 | h1
            · exact HF.out i h1
            · exact .inr (Nat.le_trans U1.size h1)⟩, U3⟩
    · have hke : k = n := by omega
      have hE3 : Hid (layD (pl L) D = (E.flush, E.operE)) := by
        show _ = _
        rw [HLay.out, hke, List.drop_of_length_le (by simp [pl, HL.out])]
        rfl
      have cF := Dk.flush_at HDk.out
      subst hke
      generalize E.operE = ee at cF hE3
      clear HLay
      go_wp2_with fail
      refine Calls.mono cF ?_
      rintro r u ⟨rfl, hd2, U2⟩
      go_wp2_with fail
      go_ret
      rw [hE3.out]
      exact ⟨rfl, ⟨F', hd2, HF.out⟩, U.trans U2 (fun i h => HF.out i h)⟩
end Go.Proofs.Ytdkaacjeogifdaa.H

/-
  Home of images of whole blocks: each block's last one, rising.
-/
namespace Go.Proofs.Ytdkaacjeogifdaa.H
open Go.RowKit Go.Maps
open Go.Proofs.Ytdkaacjeogifdaa.Rc (GG GetJ imgC Imgs)
open Go.Proofs.Ytdkaacjeogifdaa.Dk (Box Upd)

/-- the last image's bytes of a block -/
def lastD (L : List (Int × List UInt8)) (k : Int) : Option (List UInt8) := L.foldl (fun o p => if p.1 = k then some p.2 else o) none
def datD (L : List (Int × List UInt8)) (k : Int) : List UInt8 := (lastD L k).getD []
theorem last_both' : ∀ (L : List ImD) (m0 : Int → Option Value) (o0 : Option (List UInt8)) (k : Int),
    (∃ p ∈ L, p.1.1 = k ∧ ((L.map (·.1)).foldl (fun m q => fun j => if j = q.1 then some (imV q) else m j) m0) k = some (imV p.1) ∧ (pl L).foldl (fun o p => if p.1 = k then some p.2 else o) o0 = some p.2) ∨
    (((L.map (·.1)).foldl (fun m q => fun j => if j = q.1 then some (imV q) else m j) m0) k = m0 k ∧ (pl L).foldl (fun o p => if p.1 = k then some p.2 else o) o0 = o0 ∧ ∀ p ∈ L, p.1.1 ≠ k)
  | [], m0, o0, k => .inr ⟨rfl, rfl, fun p h => by cases h⟩
  | q :: r, m0, o0, k => by
    rw [List.map_cons, List.foldl_cons, pl, List.map_cons, List.foldl_cons]
    by_cases e : k = q.1.1
    · rcases last_both' r (fun j => if j = q.1.1 then some (imV q.1) else m0 j) (if q.1.1 = k then some q.2 else o0) k with ⟨p, hp, h1, h2, h3⟩ | ⟨h1, h2, h3⟩
      · exact .inl ⟨p, List.mem_cons_of_mem _ hp, h1, h2, h3⟩
      · refine .inl ⟨q, List.mem_cons_self .., e.symm, ?_, ?_⟩
        · rw [h1, if_pos e]
        · exact h2.trans (if_pos e.symm)
    · rcases last_both' r (fun j => if j = q.1.1 then some (imV q.1) else m0 j) (if q.1.1 = k then some q.2 else o0) k with ⟨p, hp, h1, h2, h3⟩ | ⟨h1, h2, h3⟩
      · exact .inl ⟨p, List.mem_cons_of_mem _ hp, h1, h2, h3⟩
      · refine .inr ⟨?_, h2.trans (if_neg (fun h => e h.symm)), fun p hp => ?_⟩
        · rw [h1, if_neg e]
        · rcases List.mem_cons.1 hp with rfl | hp
          · exact fun h => e h.symm
          · exact h3 p hp
theorem last_both (L : List ImD) (k : Int) : (∃ p ∈ L, p.1.1 = k ∧ mOf (L.map (·.1)) k = some (imV p.1) ∧ lastD (pl L) k = some p.2) ∨ (mOf (L.map (·.1)) k = none ∧ lastD (pl L) k = none ∧ ∀ p ∈ L, p.1.1 ≠ k) := last_both' L _ _ k

theorem whole_of {w : World} {L : List ImD} (h : ∀ p ∈ L, Dk.Rd w p.1.2.1 p.2 ∧ p.2.length = 4096 ∧ p.1.2.2.1 = 4096) : Whole w (mOf (L.map (·.1))) (datD (pl L)) := fun k hk => by
  rcases last_both L k with ⟨p, hp, h1, h2, h3⟩ | ⟨h1, _⟩
  · obtain ⟨r1, r2, r3⟩ := h p hp
    obtain ⟨⟨pb, pa, pn, pc⟩, xs⟩ := p
    dsimp only at h1 h2 h3 r1 r2 r3
    subst h1 r3
    obtain ⟨b, o, rfl, hc⟩ := r1 (by omega)
    have ed : datD (pl L) pb = xs := by rw [datD, h3]; rfl
    refine ⟨b, o, pc, h2, ?_, by rw [ed]; exact r2⟩
    rw [ed]
    exact r1
  · rw [h1] at hk
    cases hk
theorem rising_last {L : List ImD} {ks : List Int} (h : Rising (mOf (L.map (·.1))) ks) : ks.Pairwise (· < ·) ∧ ∀ x, x ∈ ks ↔ (lastD (pl L) x).isSome = true := by
  refine ⟨h.1, fun x => (h.2 x).trans ?_⟩
  rcases last_both L x with ⟨p, hp, h1, h2, h3⟩ | ⟨h1, h2, _⟩
  · rw [h2, h3]; simp
  · rw [h1, h2]; simp

theorem GetJ.le {B B' : Nat} {w : World} {qs : List GG} (h : GetJ B w qs) (hb : B' ≤ B) : GetJ B' w qs := ⟨fun p hp => ⟨(h.rows p hp).1, Nat.le_trans hb (h.rows p hp).2.1, (h.rows p hp).2.2⟩, h.apart⟩

/-- what Home answers: ks are the blocks, rising -/
structure HomeR (B : Nat) (L : List (Int × List UInt8)) (ks : List Int) (qs : List GG) (a : Option Addr) (c : Nat) (w : World) : Prop where
  rise : ks.Pairwise (· < ·)
  keys : ∀ x, x ∈ ks ↔ (lastD L x).isSome = true
  len : ks.length ≤ 512
  row : w.ownsRow B 37 2 (.slice a ks.length c) ks.length (imgC qs)
  get : GetJ B w qs
  bytes : qs.map (fun p => (p.b, p.xs)) = ks.map (fun k => (k, datD L k))

theorem home_at (w : World) (ga : Option Addr) (gn gc : Nat) (gs : List Gr) (L : List ImD) (hgn : gs.length = gn) (hgm : gn ≤ 1000000) (hG : CellsG w ga gs) (hL : allIs gs = L.map (·.1)) (hD : ∀ p ∈ L, Dk.Rd w p.1.2.1 p.2 ∧ p.2.length = 4096 ∧ p.1.2.2.1 = 4096) (hR : ∀ p ∈ L, 18 ≤ p.1.1 ∧ p.1.1 ≤ 63) :
    Calls Try.prog 8 #[.agg lay, .slice ga gn gc] w fun r w' => ∃ a c ks qs, r = .returned (.tuple #[.slice a (List.length ks) c, .int .i64 0]) ∧ HomeR w.heap.size (pl L) ks qs a c w' ∧ Below w.heap.size w w' := by
  have hall : (allIs gs).all (rightIm 18 ((64 : Nat) - 1)) = true := by
    rw [hL, List.all_eq_true]
    intro q hq
    obtain ⟨p, hp, rfl⟩ := List.mem_map.1 hq
    have := hR p hp
    simp [rightIm, Su.wi]
    omega
  have c := home_in w 64 2 16 18 19 4 23 ga gn gc gs (fun v w' => ∃ a c ks qs, v = .slice a (List.length ks) c ∧ HomeR w.heap.size (pl L) ks qs a c w') lay64 (by decide) (by decide) (by decide) hgn hgm hG (fun _ u gm hm hb => by
    rw [hL] at hm
    refine (rising_at hm (by decide) (whole_of (fun p hp => ?_))).mono ?_
    · obtain ⟨h1, h2, h3⟩ := hD p hp
      exact ⟨h1.below hb (Nat.le_refl _), h2, h3⟩
    · rintro r w' ⟨a', c', ks, qs, rfl, h1, h2, h3, h4, h5, h6⟩
      exact ⟨_, rfl, ⟨a', c', ks, qs, rfl, (rising_last h1).1, (rising_last h1).2, h2, owns_le h3 hb.size, GetJ.le h4 hb.size, h5⟩, h6.mono hb.size⟩)
  refine c.mono ?_
  rintro r w' ⟨h1, _, h3⟩
  obtain ⟨v, rfl, a, c, ks, qs, rfl, hh⟩ := h1 hall
  exact ⟨a, c, ks, qs, rfl, hh, h3⟩
theorem home_no (w : World) (ga : Option Addr) (gn gc : Nat) (gs : List Gr) (hgn : gs.length = gn) (hgm : gn ≤ 1000000) (hG : CellsG w ga gs) (hno : (allIs gs).all (rightIm 18 63) = false) :
    Calls Try.prog 8 #[.agg lay, .slice ga gn gc] w fun r w' => r = .returned (.tuple #[.slice none 0 0, .int .i64 90]) ∧ Below w.heap.size w w' := by
  have c := home_in w 64 2 16 18 19 4 23 ga gn gc gs (fun _ _ => False) lay64 (by decide) (by decide) (by decide) hgn hgm hG (fun h => by
    have h : (allIs gs).all (rightIm 18 63) = true := h
    rw [hno] at h
    cases h)
  refine c.mono ?_
  rintro r w' ⟨_, h2, h3⟩
  exact ⟨h2 hno, h3⟩

/-- images in memory, for those who read them -/
theorem HomeR.imgs {B : Nat} {L : List (Int × List UInt8)} {ks : List Int} {qs : List GG} {a : Option Addr} {c : Nat} {w : World} (h : HomeR B L ks qs a c w) : Imgs w a (ks.map fun k => (k, datD L k)) := by
  rw [← h.bytes]
  have hq : qs.length = ks.length := by simpa using congrArg List.length h.bytes
  intro hp
  have hp2 : 0 < qs.length := by simpa using hp
  obtain ⟨g, rfl, _, _, hc⟩ := owns_cells h.row (by omega)
  refine ⟨g, 0, rfl, fun j hj => ?_⟩
  have hj : j < qs.length := by simpa using hj
  obtain ⟨e1, e2⟩ := Rc.imgC_at qs j hj
  obtain ⟨r1, r2, r3⟩ := h.get.rows qs[j] (List.getElem_mem hj)
  obtain ⟨cur, _, k1, k2, _⟩ := id r1
  rw [List.getElem_map]
  refine ⟨?_, some ⟨qs[j].h, 0, none⟩, qs[j].c, ?_, k1, by unfold maxLen at k2; omega, fun h => (by cases h), r1.rd⟩
  · show w.cell? ⟨g, 0 + j * 2, none⟩ = _
    rw [Nat.zero_add, hc _ (by omega), e1]
  · show w.cell? ⟨g, 0 + j * 2 + 1, none⟩ = some (.slice (some ⟨qs[j].h, 0, none⟩) qs[j].xs.length qs[j].c)
    rw [Nat.zero_add, hc _ (by omega), e2, r3]
def qD (qs : List GG) : List ImD := qs.map fun p => ((p.b, some ⟨p.h, 0, none⟩, 4096, p.c), p.xs)
theorem HomeR.imsD {B : Nat} {L : List (Int × List UInt8)} {ks : List Int} {qs : List GG} {a : Option Addr} {c : Nat} {w : World} (h : HomeR B L ks qs a c w) (F : Nat → Prop) (hF : ∀ i, F i → i < B) : ImsD w a (qD qs) F ∧ (qD qs).length = ks.length ∧ pl (qD qs) = ks.map fun k => (k, datD L k) := by
  have hq : qs.length = ks.length := by simpa using congrArg List.length h.bytes
  refine ⟨⟨fun hp => ?_, fun p hp => ?_, fun ad e => ?_⟩, by simp [qD, hq], by rw [← h.bytes]; simp [qD, pl]⟩
  · have hp2 : 0 < qs.length := by simpa [qD] using hp
    obtain ⟨g, rfl, _, _, hc⟩ := owns_cells h.row (by omega)
    refine ⟨g, 0, rfl, fun j hj => ?_⟩
    have hj : j < qs.length := by simpa [qD] using hj
    obtain ⟨e1, e2⟩ := Rc.imgC_at qs j hj
    simp only [qD, List.getElem_map, List.map_map]
    refine ⟨?_, ?_⟩
    · rw [Nat.zero_add, hc _ (by omega), e1]
      rfl
    · rw [Nat.zero_add, hc _ (by omega), e2]
      rfl
  · obtain ⟨q, hq, rfl⟩ := List.mem_map.1 hp
    obtain ⟨r1, r2, r3⟩ := h.get.rows q hq
    exact ⟨r1.rd, r3, fun ad e => by
      injection e with e
      rw [← e]
      exact ⟨r1.lt, fun hf => absurd r2 (Nat.not_le.2 (hF _ hf))⟩⟩
  · intro hf
    have := hF _ hf
    rcases h.row.2 with ⟨h1, h2⟩ | ⟨g, cap, cur, h1, hBg, _⟩
    · injection h1 with h1
      rw [h1] at e
      cases e
    · injection h1 with h1
      rw [h1] at e
      injection e with e
      rw [← e] at this
      exact absurd hBg (Nat.not_le.2 this)
end Go.Proofs.Ytdkaacjeogifdaa.H

/-
  Choose.
-/
namespace Go.Proofs.Ytdkaacjeogifdaa.H
open Go.RowKit
open Go.Proofs.Ytdkaacjeogifdaa.Su (wi Sup zeroS supV getSuper GetsS erG Rd)
open Go.Proofs.Ytdkaacjeogifdaa.Dk (Box)

/-- what counts, which one, whether -/
def choose : Option Sup → Option Sup → Sup × Int × Bool
  | none, none => (zeroS, 0, false)
  | none, some y => (y, 1, true)
  | some x, none => (x, 0, true)
  | some x, some y => if later y x then (y, 1, true) else (x, 0, true)

/-- the walk, whatever the two say -/
theorem choose_in (a b : Value) (e1 e2 : Int) (x y : Sup) (L : Bool) (s : Sup) (k : Int) (ok : Bool) (w : World)
    (cA : ∀ u, Below w.heap.size w u → Calls Try.prog 28 #[a] u fun r w' => r = .returned (.tuple #[supV x, .int .i64 e1]) ∧ Below u.heap.size u w')
    (cB : ∀ u, Below w.heap.size w u → Calls Try.prog 28 #[b] u fun r w' => r = .returned (.tuple #[supV y, .int .i64 e2]) ∧ Below u.heap.size u w')
    (hL : later y x = L)
    (h : (e1 = 30 ∧ e2 = 30 ∧ s = zeroS ∧ k = 0 ∧ ok = false) ∨ (e1 = 30 ∧ e2 = 0 ∧ s = y ∧ k = 1 ∧ ok = true) ∨ (e1 = 0 ∧ e2 = 30 ∧ s = x ∧ k = 0 ∧ ok = true) ∨ (e1 = 0 ∧ e2 = 0 ∧ L = true ∧ s = y ∧ k = 1 ∧ ok = true) ∨ (e1 = 0 ∧ e2 = 0 ∧ L = false ∧ s = x ∧ k = 0 ∧ ok = true)) :
    Calls Try.prog 6 #[a, b] w fun r w' => r = .returned (.tuple #[supV s, .int .i64 k, .bool ok]) ∧ Below w.heap.size w w' := by
  have al := (Below.refl w.heap.size w).alloc (Nat.le_refl _) (.cells #[.int .i64 0, .int .i64 0, .int .i64 0, .int .i64 0] 23)
  have bz := Box.new w #[.int .i64 0, .int .i64 0, .int .i64 0, .int .i64 0] 23
  have cA1 := cA _ al
  have cLt : ∀ u, Calls Try.prog 29 #[supV y, supV x] u fun r w' => r = .returned (.bool L) ∧ Below u.heap.size u w' := fun u => hL ▸ later_at y x u
  have HC : Hid (∀ u, Below w.heap.size w u → Calls Try.prog 28 #[b] u fun r w' => r = .returned (.tuple #[supV y, .int .i64 e2]) ∧ Below u.heap.size u w') := cB
  have HL : Hid (∀ u, Calls Try.prog 29 #[supV y, supV x] u fun r w' => r = .returned (.bool L) ∧ Below u.heap.size u w') := cLt
  clear cA cB cLt hL
  obtain ⟨xb, xe, xq, xt⟩ := x
  obtain ⟨yb, ye, yq, yt⟩ := y
  unfold supV at cA1
  dsimp only at cA1
  go_enter Try.func6, Try.ntmps6
  go_wp2_with fail
  refine Calls.mono cA1 ?_
  rintro r u1 ⟨rfl, b1⟩
  have B1 := al.trans (b1.mono al.size)
  have bz1 := (bz.below b1).alloc (.cells #[.int .i64 xb, .int .i64 xe, .int .i64 xq, .int .i64 xt] 23)
  have bx1 := Box.new u1 #[.int .i64 xb, .int .i64 xe, .int .i64 xq, .int .i64 xt] 23
  have B2 := B1.alloc B1.size (.cells #[.int .i64 xb, .int .i64 xe, .int .i64 xq, .int .i64 xt] 23)
  have cB1 := HC.out _ B2
  unfold supV at cB1
  dsimp only at cB1
  clear al bz cA1 b1
  go_wp2_with fail
  refine Calls.mono cB1 ?_
  rintro r u2 ⟨rfl, b2⟩
  have B3 := B2.trans (b2.mono B2.size)
  have bz2 := (bz1.below b2).alloc (.cells #[.int .i64 yb, .int .i64 ye, .int .i64 yq, .int .i64 yt] 23)
  have bx2 := (bx1.below b2).alloc (.cells #[.int .i64 yb, .int .i64 ye, .int .i64 yq, .int .i64 yt] 23)
  have by2 := Box.new u2 #[.int .i64 yb, .int .i64 ye, .int .i64 yq, .int .i64 yt] 23
  have B4 := B3.alloc B3.size (.cells #[.int .i64 yb, .int .i64 ye, .int .i64 yq, .int .i64 yt] 23)
  clear HC cB1 bz1 bx1 b2 B2 B1
  rcases h with ⟨rfl, rfl, rfl, rfl, rfl⟩ | ⟨rfl, rfl, rfl, rfl, rfl⟩ | ⟨rfl, rfl, rfl, rfl, rfl⟩ | ⟨rfl, rfl, rfl, rfl, rfl, rfl⟩ | ⟨rfl, rfl, rfl, rfl, rfl, rfl⟩
  · clear HL
    have f0 := bz2.frozen 0
    have n0 := bz2.cell 0
    have f1 := bz2.frozen 1
    have n1 := bz2.cell 1
    have f2 := bz2.frozen 2
    have n2 := bz2.cell 2
    have f3 := bz2.frozen 3
    have n3 := bz2.cell 3
    simp only [List.getElem?_toArray, List.getElem?_cons_zero, List.getElem?_cons_succ] at n0 n1 n2 n3
    go_wp2_with fail
    have Z := ((((bz2.store 0 (.int .i64 0)).store 1 (.int .i64 0)).store 2 (.int .i64 0)).store 3 (.int .i64 0))
    have C := ((((B4.setCell (p := ⟨w.heap.size, 0, none⟩) (Nat.le_refl _) (.int .i64 0)).setCell (p := ⟨w.heap.size, 1, none⟩) (Nat.le_refl _) (.int .i64 0)).setCell (p := ⟨w.heap.size, 2, none⟩) (Nat.le_refl _) (.int .i64 0)).setCell (p := ⟨w.heap.size, 3, none⟩) (Nat.le_refl _) (.int .i64 0))
    generalize (((((u2.alloc (.cells #[.int .i64 yb, .int .i64 ye, .int .i64 yq, .int .i64 yt] 23)).setCell ⟨w.heap.size, 0, none⟩ (.int .i64 0)).setCell ⟨w.heap.size, 1, none⟩ (.int .i64 0)).setCell ⟨w.heap.size, 2, none⟩ (.int .i64 0)).setCell ⟨w.heap.size, 3, none⟩ (.int .i64 0)) = W9 at Z C ⊢
    clear n0 n1 n2 n3
    have m0 := Z.cell 0
    have m1 := Z.cell 1
    have m2 := Z.cell 2
    have m3 := Z.cell 3
    simp at m0 m1 m2 m3
    refine bodyPost_ret (v := .tuple #[.agg #[.int .i64 0, .int .i64 0, .int .i64 0, .int .i64 0], .int .i64 0, .bool false]) (by simp [results, Try.results6, go_sem, m0, m1, m2, m3]) rfl ?_
    exact ⟨rfl, C⟩
  · clear HL
    have f0 := bz2.frozen 0
    have n0 := bz2.cell 0
    have f1 := bz2.frozen 1
    have n1 := bz2.cell 1
    have f2 := bz2.frozen 2
    have n2 := bz2.cell 2
    have f3 := bz2.frozen 3
    have n3 := bz2.cell 3
    simp only [List.getElem?_toArray, List.getElem?_cons_zero, List.getElem?_cons_succ] at n0 n1 n2 n3
    have k0 := by2.cell 0
    have k1 := by2.cell 1
    have k2 := by2.cell 2
    have k3 := by2.cell 3
    simp only [List.getElem?_toArray, List.getElem?_cons_zero, List.getElem?_cons_succ] at k0 k1 k2 k3
    go_wp2_with fail
    have Z := ((((bz2.store 0 (.int .i64 yb)).store 1 (.int .i64 ye)).store 2 (.int .i64 yq)).store 3 (.int .i64 yt))
    have C := ((((B4.setCell (p := ⟨w.heap.size, 0, none⟩) (Nat.le_refl _) (.int .i64 yb)).setCell (p := ⟨w.heap.size, 1, none⟩) (Nat.le_refl _) (.int .i64 ye)).setCell (p := ⟨w.heap.size, 2, none⟩) (Nat.le_refl _) (.int .i64 yq)).setCell (p := ⟨w.heap.size, 3, none⟩) (Nat.le_refl _) (.int .i64 yt))
    generalize (((((u2.alloc (.cells #[.int .i64 yb, .int .i64 ye, .int .i64 yq, .int .i64 yt] 23)).setCell ⟨w.heap.size, 0, none⟩ (.int .i64 yb)).setCell ⟨w.heap.size, 1, none⟩ (.int .i64 ye)).setCell ⟨w.heap.size, 2, none⟩ (.int .i64 yq)).setCell ⟨w.heap.size, 3, none⟩ (.int .i64 yt)) = W9 at Z C ⊢
    clear n0 n1 n2 n3
    have m0 := Z.cell 0
    have m1 := Z.cell 1
    have m2 := Z.cell 2
    have m3 := Z.cell 3
    simp at m0 m1 m2 m3
    refine bodyPost_ret (v := .tuple #[.agg #[.int .i64 yb, .int .i64 ye, .int .i64 yq, .int .i64 yt], .int .i64 1, .bool true]) (by simp [results, Try.results6, go_sem, m0, m1, m2, m3]) rfl ?_
    exact ⟨rfl, C⟩
  · clear HL
    have f0 := bz2.frozen 0
    have n0 := bz2.cell 0
    have f1 := bz2.frozen 1
    have n1 := bz2.cell 1
    have f2 := bz2.frozen 2
    have n2 := bz2.cell 2
    have f3 := bz2.frozen 3
    have n3 := bz2.cell 3
    simp only [List.getElem?_toArray, List.getElem?_cons_zero, List.getElem?_cons_succ] at n0 n1 n2 n3
    have k0 := bx2.cell 0
    have k1 := bx2.cell 1
    have k2 := bx2.cell 2
    have k3 := bx2.cell 3
    simp only [List.getElem?_toArray, List.getElem?_cons_zero, List.getElem?_cons_succ] at k0 k1 k2 k3
    go_wp2_with fail
    have Z := ((((bz2.store 0 (.int .i64 xb)).store 1 (.int .i64 xe)).store 2 (.int .i64 xq)).store 3 (.int .i64 xt))
    have C := ((((B4.setCell (p := ⟨w.heap.size, 0, none⟩) (Nat.le_refl _) (.int .i64 xb)).setCell (p := ⟨w.heap.size, 1, none⟩) (Nat.le_refl _) (.int .i64 xe)).setCell (p := ⟨w.heap.size, 2, none⟩) (Nat.le_refl _) (.int .i64 xq)).setCell (p := ⟨w.heap.size, 3, none⟩) (Nat.le_refl _) (.int .i64 xt))
    generalize (((((u2.alloc (.cells #[.int .i64 yb, .int .i64 ye, .int .i64 yq, .int .i64 yt] 23)).setCell ⟨w.heap.size, 0, none⟩ (.int .i64 xb)).setCell ⟨w.heap.size, 1, none⟩ (.int .i64 xe)).setCell ⟨w.heap.size, 2, none⟩ (.int .i64 xq)).setCell ⟨w.heap.size, 3, none⟩ (.int .i64 xt)) = W9 at Z C ⊢
    clear n0 n1 n2 n3
    have m0 := Z.cell 0
    have m1 := Z.cell 1
    have m2 := Z.cell 2
    have m3 := Z.cell 3
    simp at m0 m1 m2 m3
    refine bodyPost_ret (v := .tuple #[.agg #[.int .i64 xb, .int .i64 xe, .int .i64 xq, .int .i64 xt], .int .i64 0, .bool true]) (by simp [results, Try.results6, go_sem, m0, m1, m2, m3]) rfl ?_
    exact ⟨rfl, C⟩
  · have k0 := bx2.cell 0
    have k1 := bx2.cell 1
    have k2 := bx2.cell 2
    have k3 := bx2.cell 3
    have j0 := by2.cell 0
    have j1 := by2.cell 1
    have j2 := by2.cell 2
    have j3 := by2.cell 3
    simp only [List.getElem?_toArray, List.getElem?_cons_zero, List.getElem?_cons_succ] at k0 k1 k2 k3 j0 j1 j2 j3
    have cL := HL.out (u2.alloc (.cells #[.int .i64 yb, .int .i64 ye, .int .i64 yq, .int .i64 yt] 23))
    unfold supV at cL
    dsimp only at cL
    clear HL
    go_wp2_with fail
    refine Calls.mono cL ?_
    rintro r u3 ⟨rfl, b3⟩
    have B5 := B4.trans (b3.mono B4.size)
    have bz3 := bz2.below b3
    have bx3 := bx2.below b3
    have by3 := by2.below b3
    clear k0 k1 k2 k3 j0 j1 j2 j3 cL bz2 bx2 by2 B4 B3 b3
    have f0 := bz3.frozen 0
    have n0 := bz3.cell 0
    have f1 := bz3.frozen 1
    have n1 := bz3.cell 1
    have f2 := bz3.frozen 2
    have n2 := bz3.cell 2
    have f3 := bz3.frozen 3
    have n3 := bz3.cell 3
    simp only [List.getElem?_toArray, List.getElem?_cons_zero, List.getElem?_cons_succ] at n0 n1 n2 n3
    have k0 := by3.cell 0
    have k1 := by3.cell 1
    have k2 := by3.cell 2
    have k3 := by3.cell 3
    simp only [List.getElem?_toArray, List.getElem?_cons_zero, List.getElem?_cons_succ] at k0 k1 k2 k3
    go_wp2_with fail
    have Z := ((((bz3.store 0 (.int .i64 yb)).store 1 (.int .i64 ye)).store 2 (.int .i64 yq)).store 3 (.int .i64 yt))
    have C := ((((B5.setCell (p := ⟨w.heap.size, 0, none⟩) (Nat.le_refl _) (.int .i64 yb)).setCell (p := ⟨w.heap.size, 1, none⟩) (Nat.le_refl _) (.int .i64 ye)).setCell (p := ⟨w.heap.size, 2, none⟩) (Nat.le_refl _) (.int .i64 yq)).setCell (p := ⟨w.heap.size, 3, none⟩) (Nat.le_refl _) (.int .i64 yt))
    generalize ((((u3.setCell ⟨w.heap.size, 0, none⟩ (.int .i64 yb)).setCell ⟨w.heap.size, 1, none⟩ (.int .i64 ye)).setCell ⟨w.heap.size, 2, none⟩ (.int .i64 yq)).setCell ⟨w.heap.size, 3, none⟩ (.int .i64 yt)) = W9 at Z C ⊢
    clear n0 n1 n2 n3
    have m0 := Z.cell 0
    have m1 := Z.cell 1
    have m2 := Z.cell 2
    have m3 := Z.cell 3
    simp at m0 m1 m2 m3
    refine bodyPost_ret (v := .tuple #[.agg #[.int .i64 yb, .int .i64 ye, .int .i64 yq, .int .i64 yt], .int .i64 1, .bool true]) (by simp [results, Try.results6, go_sem, m0, m1, m2, m3]) rfl ?_
    exact ⟨rfl, C⟩
  · have k0 := bx2.cell 0
    have k1 := bx2.cell 1
    have k2 := bx2.cell 2
    have k3 := bx2.cell 3
    have j0 := by2.cell 0
    have j1 := by2.cell 1
    have j2 := by2.cell 2
    have j3 := by2.cell 3
    simp only [List.getElem?_toArray, List.getElem?_cons_zero, List.getElem?_cons_succ] at k0 k1 k2 k3 j0 j1 j2 j3
    have cL := HL.out (u2.alloc (.cells #[.int .i64 yb, .int .i64 ye, .int .i64 yq, .int .i64 yt] 23))
    unfold supV at cL
    dsimp only at cL
    clear HL
    go_wp2_with fail
    refine Calls.mono cL ?_
    rintro r u3 ⟨rfl, b3⟩
    have B5 := B4.trans (b3.mono B4.size)
    have bz3 := bz2.below b3
    have bx3 := bx2.below b3
    have by3 := by2.below b3
    clear k0 k1 k2 k3 j0 j1 j2 j3 cL bz2 bx2 by2 B4 B3 b3
    have f0 := bz3.frozen 0
    have n0 := bz3.cell 0
    have f1 := bz3.frozen 1
    have n1 := bz3.cell 1
    have f2 := bz3.frozen 2
    have n2 := bz3.cell 2
    have f3 := bz3.frozen 3
    have n3 := bz3.cell 3
    simp only [List.getElem?_toArray, List.getElem?_cons_zero, List.getElem?_cons_succ] at n0 n1 n2 n3
    have k0 := bx3.cell 0
    have k1 := bx3.cell 1
    have k2 := bx3.cell 2
    have k3 := bx3.cell 3
    simp only [List.getElem?_toArray, List.getElem?_cons_zero, List.getElem?_cons_succ] at k0 k1 k2 k3
    go_wp2_with fail
    have Z := ((((bz3.store 0 (.int .i64 xb)).store 1 (.int .i64 xe)).store 2 (.int .i64 xq)).store 3 (.int .i64 xt))
    have C := ((((B5.setCell (p := ⟨w.heap.size, 0, none⟩) (Nat.le_refl _) (.int .i64 xb)).setCell (p := ⟨w.heap.size, 1, none⟩) (Nat.le_refl _) (.int .i64 xe)).setCell (p := ⟨w.heap.size, 2, none⟩) (Nat.le_refl _) (.int .i64 xq)).setCell (p := ⟨w.heap.size, 3, none⟩) (Nat.le_refl _) (.int .i64 xt))
    generalize ((((u3.setCell ⟨w.heap.size, 0, none⟩ (.int .i64 xb)).setCell ⟨w.heap.size, 1, none⟩ (.int .i64 xe)).setCell ⟨w.heap.size, 2, none⟩ (.int .i64 xq)).setCell ⟨w.heap.size, 3, none⟩ (.int .i64 xt)) = W9 at Z C ⊢
    clear n0 n1 n2 n3
    have m0 := Z.cell 0
    have m1 := Z.cell 1
    have m2 := Z.cell 2
    have m3 := Z.cell 3
    simp at m0 m1 m2 m3
    refine bodyPost_ret (v := .tuple #[.agg #[.int .i64 xb, .int .i64 xe, .int .i64 xq, .int .i64 xt], .int .i64 0, .bool true]) (by simp [results, Try.results6, go_sem, m0, m1, m2, m3]) rfl ?_
    exact ⟨rfl, C⟩

theorem choose_at (n1 c1 n2 c2 : Nat) (a1 a2 : Option Addr) (xs ys : List UInt8) (w : World) (hn1 : xs.length = n1) (hc1 : n1 ≤ c1) (hm1 : c1 ≤ 9223372036854775807) (hr1 : Rd w a1 xs) (hn2 : ys.length = n2) (hc2 : n2 ≤ c2) (hm2 : c2 ≤ 9223372036854775807) (hr2 : Rd w a2 ys) :
    Calls Try.prog 6 #[.slice a1 n1 c1, .slice a2 n2 c2] w fun r w' => r = .returned (.tuple #[supV (choose (getSuper xs) (getSuper ys)).1, .int .i64 (choose (getSuper xs) (getSuper ys)).2.1, .bool (choose (getSuper xs) (getSuper ys)).2.2]) ∧ Below w.heap.size w w' := by
  refine choose_in _ _ (erG (getSuper xs).isSome) (erG (getSuper ys).isSome) ((getSuper xs).getD zeroS) ((getSuper ys).getD zeroS) _ _ _ _ w (fun u bu => Su.getSuper_at n1 c1 a1 xs u hn1 hc1 hm1 (hr1.below bu (Nat.le_refl _))) (fun u bu => Su.getSuper_at n2 c2 a2 ys u hn2 hc2 hm2 (hr2.below bu (Nat.le_refl _))) rfl ?_
  rcases getSuper xs with _ | x <;> rcases getSuper ys with _ | y
  · exact .inl ⟨rfl, rfl, rfl, rfl, rfl⟩
  · exact .inr (.inl ⟨rfl, rfl, rfl, rfl, rfl⟩)
  · exact .inr (.inr (.inl ⟨rfl, rfl, rfl, rfl, rfl⟩))
  · show _ ∨ _ ∨ _ ∨ (_ ∧ _ ∧ later y x = true ∧ _) ∨ (_ ∧ _ ∧ later y x = false ∧ _)
    cases h : later y x
    · exact .inr (.inr (.inr (.inr ⟨rfl, rfl, rfl, by simp [choose, h], by simp [choose, h], by simp [choose, h]⟩)))
    · exact .inr (.inr (.inr (.inl ⟨rfl, rfl, rfl, by simp [choose, h], by simp [choose, h], by simp [choose, h]⟩)))
end Go.Proofs.Ytdkaacjeogifdaa.H

/-
  Do: the images, then the superblock; what it refuses.
-/
namespace Go.Proofs.Ytdkaacjeogifdaa.H
open Go.RowKit
open Go.Proofs.Ytdkaacjeogifdaa.Su (wi supV erP)
open Go.Proofs.Ytdkaacjeogifdaa.Dk (Box Upd IsDisk DS Rd)

/-- what Do does -/
def doR (D : DS) (L : List ImD) (o : Option (List UInt8)) (slot : Int) : DS × Nat :=
  match o with
  | none => (D, 2)
  | some sb => if wi slot 0 1 && (L.map (·.1)).all (fits D.nb) then doD (pl L) slot sb D else (D, 2)

theorem owns4096 {w : World} {B n : Nat} {v : Value} {ys : List UInt8} (h : w.ownsRow B 5 1 v n (Su.bcs ys)) (hn : n = 4096) : ∃ g c, v = .slice (some ⟨g, 0, none⟩) 4096 c ∧ B ≤ g ∧ g < w.heap.size ∧ Rd w (some ⟨g, 0, none⟩) ys := by
  subst hn
  rcases h.2 with ⟨h1, h2⟩ | ⟨g, cap, cur, h1, hBg, hg2, hnc, hcm, hcs, ht⟩
  · omega
  · subst h1
    refine ⟨g, cap, rfl, hBg, (Array.getElem?_eq_some_iff.1 hg2).1, ?_⟩
    exact Su.owns_rd_at h

set_option maxRecDepth 100000 in
set_option maxHeartbeats 4000000 in
theorem do_at {g : Nat} {w : World} {D : DS} {F : Nat → Prop} (hd : IsDisk w g D F) (a : Option Addr) (n c : Nat) (L : List ImD) (b e q t slot : Int) (hl : L.length = n) (hn : n ≤ 1000) (hI : ImsD w a L F) (hlim : D.uf.length ≤ 800000 ∧ D.n ≤ 800000) :
    Calls Try.prog 12 #[.pointer (some ⟨g, 0, none⟩), .slice a n c, .agg #[.int .i64 b, .int .i64 e, .int .i64 q, .int .i64 t], .int .i64 slot] w fun r w' => r = .returned (.int .i64 ((doR D L (Su.putSuper b e q t) slot).2 : Int)) ∧ (∃ F', IsDisk w' g (doR D L (Su.putSuper b e q t) slot).1 F' ∧ ∀ i, F' i → F i ∨ w.heap.size ≤ i) ∧ Upd F w w' := by
  have HI : Hid (ImsD w a L F) := hI
  have HL : Hid (L.length = n) := hl
  have HLim : Hid (D.uf.length ≤ 800000 ∧ D.n ≤ 800000) := hlim
  have HD : Hid (IsDisk w g D F) := hd
  have hok := hd.ok
  have hflt := hd.flt
  have x := Box.new w #[.int .i64 b, .int .i64 e, .int .i64 q, .int .i64 t] 23
  have B0 := (Below.refl w.heap.size w).alloc (Nat.le_refl _) (.cells #[.int .i64 b, .int .i64 e, .int .i64 q, .int .i64 t] 23)
  have c0 := x.cell 0
  have c1 := x.cell 1
  have c2 := x.cell 2
  have c3 := x.cell 3
  simp only [List.getElem?_toArray, List.getElem?_cons_zero, List.getElem?_cons_succ] at c0 c1 c2 c3
  have cS := Dk.size_of (HD.out.below B0)
  have cP := Su.putSuper_at b e q t (w.alloc (.cells #[.int .i64 b, .int .i64 e, .int .i64 q, .int .i64 t] 23))
  have hsb : Hid (∀ sb, Su.putSuper b e q t = some sb → sb.length = 4096) := fun sb h => by
    unfold Su.putSuper at h
    split at h
    · injection h with h
      rw [← h, Su.superB_length]
    · cases h
  generalize Su.putSuper b e q t = o at cP hsb ⊢
  have hnb1 := hok.lo
  have hnb2 := hok.hi
  have HF : Hid (∀ i, F i → i < w.heap.size) := hflt
  obtain ⟨N, hN⟩ : ∃ N, N = D.nb := ⟨_, rfl⟩
  have HNb : Hid (N = D.nb) := hN
  rw [← hN] at cS hnb1 hnb2
  have hN0 : ((N : Int) == 0) = false := by simp; omega
  clear hI hl hlim hd hok hflt x hN
  go_enter Try.func12, Try.ntmps12
  go_wp2_with fail
  refine Calls.mono cS ?_
  rintro r u0 ⟨rfl, rfl⟩
  clear cS
  go_wp2_with fail
  refine Calls.mono cP ?_
  rintro r u1 ⟨v, rfl, hrow, b1⟩
  have B1 := B0.trans (b1.mono B0.size)
  clear cP c0 c1 c2 c3
  have U1 : Upd F w u1 := Upd.of_below B1
  cases o with
  | none =>
    have he : erP none = 2 := rfl
    rw [he]
    clear hrow
    go_wp2_with fail
    go_ret
    exact ⟨rfl, ⟨F, HD.out.below B1, fun i h => .inl h⟩, U1⟩
  | some sb =>
    have he : erP (some sb) = 0 := rfl
    rw [he]
    have hl := hsb.out sb rfl
    obtain ⟨gb, cb, rfl, hgb, hgbl, rd⟩ := owns4096 hrow hl
    have hgb : w.heap.size ≤ gb := Nat.le_trans B0.size hgb
    have HR : Hid (Rd u1 (some ⟨gb, 0, none⟩) sb) := rd
    have HSl : Hid (sb.length = 4096) := hl
    clear hrow rd hsb hl
    have cW := within_at slot 0 1 u1
    cases hw : wi slot 0 1 with
    | false =>
      rw [hw] at cW
      have hres : Hid (doR D L (some sb) slot = (D, 2)) := by show _ = _; simp [doR, hw]
      go_wp2_with fail
      refine Calls.mono cW ?_
      rintro r u2 ⟨rfl, rfl⟩
      go_wp2_with fail
      go_ret
      rw [hres.out]
      exact ⟨rfl, ⟨F, HD.out.below B1, fun i h => .inl h⟩, U1⟩
    | true =>
      rw [hw] at cW
      have cA := allFit_at u1 a n c (L.map (·.1)) N (by rw [List.length_map]; exact HL.out) (by omega) ⟨by omega, by omega⟩ (fun h => by
        obtain ⟨b', o', e', hc'⟩ := HI.out.cells h
        exact ⟨b', o', e', fun j hj => ⟨(B1.cell (p := ⟨b', o' + j * 2, none⟩) (block_lt_of_cell (hc' j hj).1)).trans (hc' j hj).1, (B1.cell (p := ⟨b', o' + j * 2 + 1, none⟩) (block_lt_of_cell (hc' j hj).2)).trans (hc' j hj).2⟩⟩)
      cases ha : (L.map (·.1)).all (fits N) with
      | false =>
        rw [ha] at cA
        have hres : Hid (doR D L (some sb) slot = (D, 2)) := by show _ = _; simp only [doR]; rw [← HNb.out, ha, hw]; rfl
        clear ha
        go_wp2_with fail
        refine Calls.mono cW ?_
        rintro r u2 ⟨rfl, rfl⟩
        go_wp2_with fail
        refine Calls.mono cA ?_
        rintro r u3 ⟨rfl, b3⟩
        go_wp2_with fail
        go_ret
        rw [hres.out]
        have B3 := B1.trans (b3.mono B1.size)
        exact ⟨rfl, ⟨F, HD.out.below B3, fun i h => .inl h⟩, Upd.of_below B3⟩
      | true =>
        rw [ha] at cA
        have hres : Hid (doR D L (some sb) slot = doD (pl L) slot sb D) := by show _ = _; simp only [doR]; rw [← HNb.out, ha, hw]; rfl
        clear ha
        go_wp2_with fail
        refine Calls.mono cW ?_
        rintro r u2 ⟨rfl, rfl⟩
        go_wp2_with fail
        refine Calls.mono cA ?_
        rintro r u3 ⟨rfl, b3⟩
        have B3 := B1.trans (b3.mono B1.size)
        have hI3 : ImsD u3 a L F := by
          refine ⟨fun h => ?_, fun p hp => ?_, HI.out.out⟩
          · obtain ⟨b', o', e', hc'⟩ := HI.out.cells h
            exact ⟨b', o', e', fun j hj => ⟨(B3.cell (p := ⟨b', o' + j * 2, none⟩) (block_lt_of_cell (hc' j hj).1)).trans (hc' j hj).1, (B3.cell (p := ⟨b', o' + j * 2 + 1, none⟩) (block_lt_of_cell (hc' j hj).2)).trans (hc' j hj).2⟩⟩
          · obtain ⟨h1, h2, h3⟩ := HI.out.data p hp
            exact ⟨rd_upd h1 (Upd.of_below (F := F) B3) (fun ad e => (h3 ad e).2), h2, fun ad e => ⟨Nat.lt_of_lt_of_le (h3 ad e).1 B3.size, (h3 ad e).2⟩⟩
        have cL := lay_at (HD.out.below B3) a n c L HL.out hn hI3 ⟨by have := HLim.out.1; omega, by have := HLim.out.2; omega⟩
        have hr3 : Hid (Rd u3 (some ⟨gb, 0, none⟩) sb) := HR.out.below b3 (Nat.le_refl _)
        have z3 : gb < u3.heap.size := Nat.lt_of_lt_of_le hgbl b3.size
        have hle := layD_le (pl L) D
        have HLe : Hid ((layD (pl L) D).1.nb = D.nb ∧ (layD (pl L) D).1.uf.length ≤ D.uf.length + n ∧ (layD (pl L) D).1.n ≤ D.n + n) := by
          rw [show (pl L).length = n by simp [pl, HL.out]] at hle
          exact hle
        clear cA cW hI3 b3 HR hgbl hle
        by_cases h0 : (layD (pl L) D).2 = 0
        · have hres2 : Hid (doR D L (some sb) slot = layD [(slot, sb)] (layD (pl L) D).1) := by show _ = _; rw [hres.out, doD, if_pos h0]
          rw [h0] at cL
          generalize (layD (pl L) D).1 = D1 at cL hres2 HLe
          clear hres h0
          go_wp2_with fail
          refine Calls.mono cL ?_
          rintro r u4 ⟨rfl, ⟨F4, hd4, hF4⟩, U4⟩
          have U5 : Upd F w u4 := (Upd.of_below (F := F) B3).trans U4 (fun i h => .inl h)
          have hg4 : ¬ F gb := fun h => by have := HF.out _ h; omega
          have hgF4 : ¬ F4 gb := fun h => by
            rcases hF4 _ h with h1 | h1
            · exact hg4 h1
            · omega
          have rd4 : Rd u4 (some ⟨gb, 0, none⟩) sb := rd_upd hr3.out U4 (fun ad e => by injection e with e; rw [← e]; exact hg4)
          have bA := (Below.refl u4.heap.size u4).alloc (Nat.le_refl _) (.cells #[.int .i64 slot, .slice (some ⟨gb, 0, none⟩) 4096 cb] 37)
          have bx := Box.new u4 #[.int .i64 slot, .slice (some ⟨gb, 0, none⟩) 4096 cb] 37
          have z4 : gb < u4.heap.size := Nat.lt_of_lt_of_le z3 U4.size
          have hFl := hd4.flt
          have hI5 : ImsD (u4.alloc (.cells #[.int .i64 slot, .slice (some ⟨gb, 0, none⟩) 4096 cb] 37)) (some ⟨u4.heap.size, 0, none⟩) [((slot, some ⟨gb, 0, none⟩, 4096, cb), sb)] F4 := by
            refine ⟨fun _ => ⟨u4.heap.size, 0, rfl, fun j hj => ?_⟩, fun p hp => ?_, fun ad e => ?_⟩
            · have hj0 : j = 0 := by simp at hj; omega
              subst hj0
              have y0 := bx.cell 0
              have y1 := bx.cell 1
              simp only [List.getElem?_toArray, List.getElem?_cons_zero, List.getElem?_cons_succ] at y0 y1
              exact ⟨y0, y1⟩
            · simp at hp
              subst hp
              exact ⟨rd4.below bA (Nat.le_refl _), HSl.out, fun ad e => by injection e with e; rw [← e]; exact ⟨by simp; omega, hgF4⟩⟩
            · injection e with e
              rw [← e]
              intro h
              have := hFl _ h
              exact Nat.lt_irrefl _ this
          have cL2 := lay_at (hd4.below bA) (some ⟨u4.heap.size, 0, none⟩) 1 1 [((slot, some ⟨gb, 0, none⟩, 4096, cb), sb)] rfl (by decide) hI5 ⟨by have := HLe.out.2.1; have := HLim.out.1; omega, by have := HLe.out.2.2; have := HLim.out.2; omega⟩
          have hpl : pl [((slot, some ⟨gb, 0, none⟩, 4096, cb), sb)] = [(slot, sb)] := rfl
          rw [hpl] at cL2
          clear cL hI5 bx rd4 hpl
          generalize layD [(slot, sb)] D1 = R at cL2 hres2
          go_wp2_with fail
          refine Calls.mono cL2 ?_
          rintro r u6 ⟨rfl, ⟨F6, hd6, hF6⟩, U6⟩
          go_wp2_with fail
          go_ret
          rw [hres2.out]
          have U7 := (U5.alloc (.cells #[.int .i64 slot, .slice (some ⟨gb, 0, none⟩) 4096 cb] 37)).trans U6 (fun i h => by
            rcases hF4 i h with h1 | h1
            · exact .inl h1
            · exact .inr (Nat.le_trans B3.size h1))
          refine ⟨rfl, ⟨F6, hd6, fun i hi => ?_⟩, U7⟩
          rcases hF6 i hi with h1 | h1
          · rcases hF4 i h1 with h2 | h2
            · exact .inl h2
            · exact .inr (Nat.le_trans B3.size h2)
          · exact .inr (Nat.le_trans (Nat.le_trans U5.size bA.size) h1)
        · have hres2 : Hid (doR D L (some sb) slot = layD (pl L) D) := by show _ = _; rw [hres.out, doD, if_neg h0]
          have hne : (((layD (pl L) D).2 : Int) != 0) = true := by simp; omega
          clear h0 hres
          generalize layD (pl L) D = R at cL hres2 hne
          obtain ⟨D4, ee⟩ := R
          dsimp only at cL hne
          go_wp2_with fail
          refine Calls.mono cL ?_
          rintro r u4 ⟨rfl, ⟨F4, hd4, hF4⟩, U4⟩
          go_wp2_with fail
          go_ret
          rw [hres2.out]
          exact ⟨rfl, ⟨F4, hd4, fun i hi => by
            rcases hF4 i hi with h1 | h1
            · exact .inl h1
            · exact .inr (Nat.le_trans B3.size h1)⟩, (Upd.of_below (F := F) B3).trans U4 (fun i h => .inl h)⟩
end Go.Proofs.Ytdkaacjeogifdaa.H

/-
  Supers: equal or not; the law's superblocks; literals of images and groups.
-/
namespace Go.Proofs.Ytdkaacjeogifdaa.H
open Go.RowKit
open Go.Proofs.Ytdkaacjeogifdaa.Su (wi Sup supV zeroS getSuper rightS superB)
open Go.Proofs.Ytdkaacjeogifdaa.Dk (Box)

theorem fieldsS : Try.prog.underlying 23 = some (.struct (Try.prog.fieldsOf 23)) := by kernel_rfl
theorem heldS : Try.prog.stoodInHeld 23 = false := by kernel_rfl
theorem eqS (u : World) (a b c d a' b' c' d' : Int) : (Op.equalIn 10000 23 (.agg #[.int .i64 a, .int .i64 b, .int .i64 c, .int .i64 d]) (.agg #[.int .i64 a', .int .i64 b', .int .i64 c', .int .i64 d'])).run Try.prog u = .ok (decide (a = a' ∧ b = b' ∧ c = c' ∧ d = d')) u := by
  rw [run_equalIn_agg u 9999 23 _ _ fieldsS heldS]
  simp only [Program.fieldsOf, Try.underlying23]
  simp [go_sem, Op.eqFields, Try.underlying3]
  by_cases h1 : a = a' <;> simp [h1]
  by_cases h2 : b = b' <;> simp [h2]
  by_cases h3 : c = c' <;> simp [h3]
  by_cases h4 : d = d' <;> simp [h4]
theorem eqlS (u : World) (a b c d a' b' c' d' : Int) : (binOp .eql 23 (.agg #[.int .i64 a, .int .i64 b, .int .i64 c, .int .i64 d]) (.agg #[.int .i64 a', .int .i64 b', .int .i64 c', .int .i64 d'])).run Try.prog u = .ok (.bool (decide (a = a' ∧ b = b' ∧ c = c' ∧ d = d'))) u := by
  have h := eqS u a b c d a' b' c' d'
  simp only [binOp]
  simp [Op.equal, Op.maxDepth, h]
theorem neqS (u : World) (a b c d a' b' c' d' : Int) : (binOp .neq 23 (.agg #[.int .i64 a, .int .i64 b, .int .i64 c, .int .i64 d]) (.agg #[.int .i64 a', .int .i64 b', .int .i64 c', .int .i64 d'])).run Try.prog u = .ok (.bool (!decide (a = a' ∧ b = b' ∧ c = c' ∧ d = d'))) u := by
  have h := eqS u a b c d a' b' c' d'
  simp only [binOp]
  simp [Op.equal, Op.maxDepth, h]

/-- the law's superblock -/
def sB (e q : Nat) : List UInt8 := superB 64 e q 0
theorem sB_len (e q : Nat) : (sB e q).length = 4096 := Su.superB_length 64 e q 0
theorem sB_put (e q : Nat) (h : rightS 64 (e : Int) (q : Int) 0 = true) : Su.putSuper 64 (e : Int) (q : Int) 0 = some (sB e q) := by
  unfold Su.putSuper
  rw [if_pos h]
  rfl
theorem sB_get (e q : Nat) (h : rightS 64 (e : Int) (q : Int) 0 = true) : getSuper (sB e q) = some ⟨64, e, q, 0⟩ := Su.getSuper_put 64 e q 0 h
theorem bytes_good (e q : Nat) (w : World) (h : rightS 64 (e : Int) (q : Int) 0 = true) : Calls Try.prog 7 #[.int .i64 e, .int .i64 q] w fun r w' => ∃ g c, r = .returned (.slice (some ⟨g, 0, none⟩) 4096 c) ∧ w.heap.size ≤ g ∧ g < w'.heap.size ∧ 4096 ≤ c ∧ c ≤ 9223372036854775807 ∧ Su.Rd w' (some ⟨g, 0, none⟩) (sB e q) ∧ Below w.heap.size w w' := by
  refine (bytes_at e q w).mono ?_
  rintro r w' ⟨v, rfl, ho, b⟩
  rw [sB_put e q h] at ho
  obtain ⟨a, cap, rfl, h1, h2, h3, h4, h5⟩ := Su.owns_rd ho
  have hl : ((some (sB e q)).getD []).length = 4096 := sB_len e q
  rw [hl] at h2 h5 ⊢
  obtain ⟨g, rfl, h6, h7⟩ := h5 (by omega)
  exact ⟨g, cap, rfl, h6, h7, h2, by unfold maxLen at h3; omega, h4, b⟩

theorem cellsI_one {w : World} {g : Nat} {b : Int} {a : Option Addr} {n c : Nat} (h : Box w g #[.int .i64 b, .slice a n c] 37) : CellsI w (some ⟨g, 0, none⟩) [(b, a, n, c)] := fun _ => by
  refine ⟨g, 0, rfl, fun j hj => ?_⟩
  have hj0 : j = 0 := by simp at hj; omega
  subst hj0
  exact ⟨h.cell 0, h.cell 1⟩
theorem cellsI_two {w : World} {g : Nat} {b b' : Int} {a a' : Option Addr} {n c n' c' : Nat} (h : Box w g #[.int .i64 b, .slice a n c, .int .i64 b', .slice a' n' c'] 37) : CellsI w (some ⟨g, 0, none⟩) [(b, a, n, c), (b', a', n', c')] := fun _ => by
  refine ⟨g, 0, rfl, fun j hj => ?_⟩
  have hj0 : j = 0 ∨ j = 1 := by simp at hj; omega
  rcases hj0 with rfl | rfl
  · exact ⟨h.cell 0, h.cell 1⟩
  · exact ⟨h.cell 2, h.cell 3⟩
theorem cellsG_one {w : World} {g : Nat} {e q : Int} {a : Option Addr} {n c : Nat} {is : List Im} (h : Box w g #[.int .i64 e, .int .i64 q, .slice a n c] 40) (hn : is.length = n) (hm : n ≤ 1000000000000) (hi : CellsI w a is) : CellsG w (some ⟨g, 0, none⟩) [⟨e, q, a, c, is⟩] := fun _ => by
  refine ⟨g, 0, rfl, fun j hj => ?_⟩
  have hj0 : j = 0 := by simp at hj; omega
  subst hj0 hn
  exact ⟨h.cell 0, h.cell 1, h.cell 2, hi, hm⟩
theorem cellsG_two {w : World} {g : Nat} {e q e' q' : Int} {a a' : Option Addr} {n c n' c' : Nat} {is is' : List Im} (h : Box w g #[.int .i64 e, .int .i64 q, .slice a n c, .int .i64 e', .int .i64 q', .slice a' n' c'] 40) (hn : is.length = n) (hm : n ≤ 1000000000000) (hi : CellsI w a is) (hn' : is'.length = n') (hm' : n' ≤ 1000000000000) (hi' : CellsI w a' is') : CellsG w (some ⟨g, 0, none⟩) [⟨e, q, a, c, is⟩, ⟨e', q', a', c', is'⟩] := fun _ => by
  refine ⟨g, 0, rfl, fun j hj => ?_⟩
  have hj0 : j = 0 ∨ j = 1 := by simp at hj; omega
  subst hn hn'
  rcases hj0 with rfl | rfl
  · exact ⟨h.cell 0, h.cell 1, h.cell 2, hi, hm⟩
  · exact ⟨h.cell 3, h.cell 4, h.cell 5, hi', hm'⟩
theorem imgs_two {w : World} {g g1 g2 : Nat} {b b' : Int} {xs ys : List UInt8} (h : Box w g #[.int .i64 b, .slice (some ⟨g1, 0, none⟩) 4096 4096, .int .i64 b', .slice (some ⟨g2, 0, none⟩) 4096 4096] 37) (h1 : Rc.Own w g1 xs) (h2 : Rc.Own w g2 ys) (hx : xs.length = 4096) (hy : ys.length = 4096) : Rc.Imgs w (some ⟨g, 0, none⟩) [(b, xs), (b', ys)] := fun _ => by
  refine ⟨g, 0, rfl, fun j hj => ?_⟩
  have hj0 : j = 0 ∨ j = 1 := by simp at hj; omega
  rcases hj0 with rfl | rfl
  · refine ⟨h.cell 0, _, 4096, ?_, by show xs.length ≤ _; omega, by omega, fun h => (by cases h), h1.rd⟩
    show w.cell? ⟨g, 1, none⟩ = some (.slice _ xs.length _)
    rw [hx]
    exact h.cell 1
  · refine ⟨h.cell 2, _, 4096, ?_, by show ys.length ≤ _; omega, by omega, fun h => (by cases h), h2.rd⟩
    show w.cell? ⟨g, 3, none⟩ = some (.slice _ ys.length _)
    rw [hy]
    exact h.cell 3
end Go.Proofs.Ytdkaacjeogifdaa.H
