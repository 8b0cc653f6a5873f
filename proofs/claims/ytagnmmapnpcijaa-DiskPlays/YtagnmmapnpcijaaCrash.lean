/-
  Crash.
-/
import Derived.Test.YtagnmmapnpcijaaFlush
import Derived.Deep.Cut
namespace Go.Proofs.Ytagnmmapnpcijaa
open Go.RowKit

/-- These bools lie where a says (of none nothing is asked). -/
def RdBl (w : World) (a : Option Addr) (ks : List Bool) : Prop :=
  0 < ks.length → ∃ b o, a = some ⟨b, o, none⟩ ∧ ∀ j (h : j < ks.length), w.cell? ⟨b, o + j, none⟩ = some (.bool ks[j])
theorem RdBl.nil (w : World) (a : Option Addr) : RdBl w a [] := fun h => absurd h (by simp)

theorem keeps_lt {ks : List Bool} {k : Nat} (h : k < ks.length) : keeps ks k = ks[k] := by simp [keeps, List.getElem?_eq_getElem h]
theorem keeps_ge {ks : List Bool} {k : Nat} (h : ¬ k < ks.length) : keeps ks k = false := by simp [keeps, List.getElem?_eq_none (Nat.le_of_not_lt h)]

set_option maxRecDepth 100000 in
set_option maxHeartbeats 4000000 in
theorem crashLoop {g : Nat} {w : World} {D : DS} {F : Nat → Prop} {gd cd : Nat} {vu : Value} {ps : List (Nat × Nat × Nat)} (h : Lies w g D F gd cd vu ps) (h0 : 0 < D.uf.length) (ak : Option Addr) (nk ck0 : Nat) (ks : List Bool) (torn : Int) (m : Nat) (hm : m < 256) (hks : ks.length = nk) (hnk : nk ≤ 9223372036854775807) (hrk : RdBl w ak ks) (hkF : ∀ ad, ak = some ad → 0 < nk → ¬ F ad.block) :
    Calls Try.prog 12 #[.pointer (some ⟨g, 0, none⟩), .slice ak nk ck0, .int .i64 torn, .int .u8 (m : Int)] w fun e w' => e = .returned (.int .i64 0) ∧ IsDisk w' g (D.crash ks torn m) F ∧ Upd F w w' := by
  have c := isMade_at h
  obtain ⟨_, c1, c2, _⟩ := box_cells h.box
  obtain ⟨gv, cu, cur, rfl, hcu, hmu, hbv, hcells⟩ := h.writes h0
  have hgi : gv ≠ gd := by
    obtain ⟨cur', hb', _⟩ := h.dur
    exact hbv.ne hb' (by decide)
  have hgd : g ≠ gd := by
    obtain ⟨cur', hb', _⟩ := h.dur
    exact h.box.ne hb' (by decide)
  have Hcells : Hid _ := hcells
  have hlt := hbv.lt
  have hglt := h.box.lt
  have Hks : Hid _ := hks
  have hdr := h.dur
  have H : Hid (Lies w g D F gd cd (.slice (some ⟨gv, 0, none⟩) D.uf.length cu) ps) := h
  obtain ⟨n, hn⟩ : ∃ n, n = D.uf.length := ⟨_, rfl⟩
  rw [← hn] at hcu c2
  obtain ⟨L, hL⟩ : ∃ L, L = D.nb * 4096 := ⟨_, rfl⟩
  rw [← hL] at c1
  have HL : Hid _ := hL
  have Hn : Hid _ := hn
  have hkb : ∀ k, k < nk → ∃ b o, ak = some ⟨b, o, none⟩ ∧ b < w.heap.size ∧ b ≠ gd ∧ ∀ j (h : j < ks.length), w.cell? ⟨b, o + j, none⟩ = some (.bool ks[j]) := fun k hk => by
    obtain ⟨b, o, hab, hc⟩ := hrk (by omega)
    refine ⟨b, o, hab, block_lt_of_cell (hc k (by omega)), fun e => ?_, hc⟩
    exact hkF _ hab (by omega) (by show F b; rw [e]; exact h.fd)
  have Hkb : Hid _ := hkb
  clear hcells h hn h0 hks hrk hL hkb
  go_enter Try.func12, Try.ntmps12
  go_wp2_with fail
  refine c.mono ?_
  rintro e w' ⟨rfl, rfl⟩
  clear c
  go_wp2_with fail
  go_loopw [19] (fun i wr => ∃ k : Nat, k ≤ n ∧ i = .int .i64 k ∧ RowB wr gd cd (crashTo ks torn m D.uf D.dur k) ∧ Upd (fun i => i = gd) w wr) (fun i _ => n - (intOf i).toNat)
  case atStart => exact ⟨0, Nat.zero_le _, rfl, hdr, Upd.refl _ _⟩
  case round =>
    obtain ⟨k, hk, rfl, hrow, U⟩ := hrel
    clear hdr
    by_cases hlt' : k < n
    · have hk' : k < D.uf.length := by rw [← Hn.out]; exact hlt'
      have hkp : k < ps.length := by rw [H.out.len]; exact hk'
      obtain ⟨a0, a1⟩ := Hcells.out k hk' hkp
      obtain ⟨_, hdat, hps, _⟩ := H.out.each k hkp hk'
      obtain ⟨hb1, hb2⟩ := H.out.ok.at k hk'
      have hsucc : Hid _ := crashTo_succ ks torn m D.uf D.dur k hk'
      have hlen : Hid ((crashTo ks torn m D.uf D.dur k).length = L) := by rw [crashTo_length D H.out.ok ks torn m k, H.out.ok.len]; exact HL.out.symm
      have hroom : D.uf[k].1 * 4096 + 4096 ≤ L := by rw [HL.out]; omega
      generalize (ps[k]'hkp).2.1 = gk at a1 hdat hps
      generalize (ps[k]'hkp).2.2 = ck at a1 hdat
      generalize (D.uf[k]'hk').2 = data at hdat hb2 hsucc
      generalize (D.uf[k]'hk').1 = bn at a0 hsucc hb1 hroom
      have a0' := (World.cell?_of_block (a := ⟨gv, 0 + k * 2, none⟩) (U.block gv hlt hgi)).trans a0
      have a1' := (World.cell?_of_block (a := ⟨gv, 0 + k * 2 + 1, none⟩) (U.block gv hlt hgi)).trans a1
      have d1 := (World.cell?_of_block (a := ⟨g, 1, none⟩) (U.block g hglt hgd)).trans c1
      simp only [Nat.zero_add] at a0' a1'
      have hdat' := U.rowB hdat hps
      have bA := (Below.refl wr.heap.size wr).alloc (Nat.le_refl _) (.cells #[.int .i64 (bn : Int), .slice (some ⟨gk, 0, none⟩) 4096 ck] 79)
      have U1 := (U.alloc (.cells #[.int .i64 (bn : Int), .slice (some ⟨gk, 0, none⟩) 4096 ck] 79)).drew
      have xb := Box.new wr #[.int .i64 (bn : Int), .slice (some ⟨gk, 0, none⟩) 4096 ck] 79
      have hrow1 := hrow.same (bA.block gd hrow.lt)
      have hdat1 := hdat'.same (bA.block gk hdat'.lt)
      have hgr : g < wr.heap.size := Nat.lt_of_lt_of_le hglt U.size
      replace d1 := (bA.cell (p := ⟨g, 1, none⟩) hgr).trans d1
      have hGd : wr.heap.size ≠ gd := fun e => by have := hrow.lt; omega
      have hkc : k < nk → ∃ b o, ak = some ⟨b, o, none⟩ ∧ (wr.alloc (.cells #[.int .i64 (bn : Int), .slice (some ⟨gk, 0, none⟩) 4096 ck] 79)).cell? ⟨b, o + k, none⟩ = some (.bool (keeps ks k)) := fun hk9 => by
        obtain ⟨b, o, hab, hbl, hbg, hc⟩ := Hkb.out k hk9
        refine ⟨b, o, hab, ?_⟩
        rw [keeps_lt (by rw [Hks.out]; exact hk9)]
        exact (bA.cell (p := ⟨b, o + k, none⟩) (Nat.lt_of_lt_of_le hbl U.size)).trans ((World.cell?_of_block (a := ⟨b, o + k, none⟩) (U.block b hbl hbg)).trans (hc k (by rw [Hks.out]; exact hk9)))
      have Hb2 : Hid _ := hb2
      have hgV : g < (wr.alloc (.cells #[.int .i64 (bn : Int), .slice (some ⟨gk, 0, none⟩) 4096 ck] 79)).heap.size := Nat.lt_of_lt_of_le hgr bA.size
      clear a0 a1 hdat hdat' hb2
      obtain ⟨V, hV⟩ : ∃ V, V = wr.alloc (.cells #[.int .i64 (bn : Int), .slice (some ⟨gk, 0, none⟩) 4096 ck] 79) := ⟨_, rfl⟩
      obtain ⟨G, hG⟩ : ∃ G, G = wr.heap.size := ⟨_, rfl⟩
      rw [← hV] at U1 xb hrow1 hdat1 d1 hkc hgV
      rw [← hG] at xb hGd
      have HV : Hid _ := hV
      have HG : Hid _ := hG
      have U1' : Upd (fun i => i = gd) w V := by rw [hV]; exact U.alloc _
      clear hV hG bA
      by_cases ht : (k : Int) = torn
      · have hs : Hid (crashTo ks torn m D.uf D.dur (k + 1) = carry (crashTo ks torn m D.uf D.dur k) bn data m) := by have := hsucc.out; rw [if_pos ht] at this; exact this
        have ht' : ((k : Int) == torn) = true := by simpa using ht
        clear hsucc ht hkc U1'
        go_upto_region 7 with fail
        rw [← HV.out, ← HG.out]
        clear HV HG
        refine wp_region_any (by kernel_rfl) ?_
        change wpAny _ _ _ _ _ _ _ (World.drew _)
        refine wpAny_take (i := 1) (v := ?_) rfl (by kernel_rfl) (by kernel_rfl) (by kernel_rfl) (fun _ _ _ h => h) (Or.inl ⟨by rfl, ?_⟩) ?_
        rotate_left
        · intro w
          go_simp
          with_reducible rfl
        refine wpAny_take (i := 2) (v := ?_) rfl (by kernel_rfl) (by kernel_rfl) (by kernel_rfl) (fun _ _ _ h => h) (Or.inl ⟨by rfl, ?_⟩) ?_
        rotate_left
        · intro w
          go_simp
          with_reducible rfl
        refine wpAny_take (i := 3) (v := ?_) rfl (by kernel_rfl) (by kernel_rfl) (by kernel_rfl) (fun _ _ _ h => h) (Or.inl ⟨by rfl, ?_⟩) ?_
        rotate_left
        · intro w
          go_simp
          with_reducible rfl
        refine wpAny_take (i := 5) (v := ?_) rfl (by kernel_rfl) (by kernel_rfl) (by kernel_rfl) (fun _ _ _ h => h) (Or.inl ⟨by rfl, ?_⟩) ?_
        rotate_left
        · intro w
          go_simp
          with_reducible rfl
        simp only [Act.put, List.setIfInBounds_toArray, List.set_cons_zero, List.set_cons_succ, List.getElem_toArray, List.getElem_cons_zero, List.getElem_cons_succ]
        refine wpAny_of_class (C := SlotsCells [(10, .pointer (some ⟨G, 0, none⟩)), (31, .pointer (some ⟨g, 1, none⟩))] [(⟨G, 0, none⟩, .int .i64 (bn : Int)), (⟨G, 1, none⟩, .slice (some ⟨gk, 0, none⟩) 4096 ck), (⟨g, 1, none⟩, .slice (some ⟨gd, 0, none⟩) L cd)]) _ _ _ _ ?_
        have hC : ∀ q ∈ ([(⟨G, 0, none⟩, .int .i64 (bn : Int)), (⟨G, 1, none⟩, .slice (some ⟨gk, 0, none⟩) 4096 ck), (⟨g, 1, none⟩, .slice (some ⟨gd, 0, none⟩) L cd)] : List (Addr × Value)), V.drew.cell? q.1 = some q.2 := by
          intro q hq
          simp at hq
          rcases hq with rfl | rfl | rfl
          · exact xb.cell 0
          · exact xb.cell 1
          · exact d1
        refine wpAnyC_take (i := 0) (v := .agg #[.int .i64 (bn : Int), .slice (some ⟨gk, 0, none⟩) 4096 ck]) rfl (by kernel_rfl) (by kernel_rfl) (by kernel_rfl) (fun _ _ _ h => h) ?_ (fun fr u h => (SlotsCells.put 28 _ (by rfl)).1 h) (fun fr u h => (SlotsCells.put 28 _ (by rfl)).2 h) ?_ ?_
        · intro fr u hh
          obtain ⟨e1, e2⟩ := hh.load (s := 10) (p := ⟨G, 0, none⟩) (v := .int .i64 (bn : Int)) (by simp) (by simp)
          have e3 := hh.2 (⟨G, 1, none⟩, .slice (some ⟨gk, 0, none⟩) 4096 ck) (by simp)
          dsimp only at e3
          exact ⟨rfl, by simp [execOp, e1, go_sem, e2, e3]⟩
        · refine ⟨fun p hp => ?_, hC⟩
          simp at hp
          rcases hp with rfl | rfl <;> rfl
        simp only [Act.put, List.setIfInBounds_toArray, List.set_cons_zero, List.set_cons_succ, List.getElem_toArray, List.getElem_cons_zero]
        refine wpAnyC_take (i := 4) (v := .slice (some ⟨gd, 0, none⟩) L cd) rfl (by kernel_rfl) (by kernel_rfl) (by kernel_rfl) (fun _ _ _ h => h) ?_ (fun fr u h => (SlotsCells.put 32 _ (by rfl)).1 h) (fun fr u h => (SlotsCells.put 32 _ (by rfl)).2 h) ?_ ?_
        · intro fr u hh
          obtain ⟨e1, e2⟩ := hh.load (s := 31) (p := ⟨g, 1, none⟩) (v := .slice (some ⟨gd, 0, none⟩) L cd) (by simp) (by simp)
          exact ⟨rfl, by simp [execOp, e1, go_sem, e2]⟩
        · refine ⟨fun p hp => ?_, hC⟩
          simp at hp
          rcases hp with rfl | rfl <;> rfl
        simp only [Act.put, List.setIfInBounds_toArray, List.set_cons_zero, List.set_cons_succ, List.getElem_toArray, List.getElem_cons_zero, List.getElem_cons_succ]
        refine wpAnyC_one (i := 6) (by kernel_rfl) rfl (fun K hK => ?_)
        go_simp
        refine (carryOut_at bn gk ck gd cd L m data (crashTo ks torn m D.uf D.dur k) V.drew hdat1 hrow1 hps Hb2.out hlen.out hroom (by omega)).mono ?_
        rintro e w1 ⟨rfl, r1, u1⟩
        have U2 := U1.trans u1 (fun i e => .inl e)
        have d1' := (World.cell?_of_block (a := ⟨g, 1, none⟩) (u1.block g hgV hgd)).trans d1
        have xb' := u1.box xb hGd
        refine hK _ _ ⟨?_, ?_⟩
        · refine ⟨fun p hp => ?_, fun q hq => ?_⟩
          · simp at hp
            rcases hp with rfl | rfl <;> rfl
          · simp at hq
            rcases hq with rfl | rfl | rfl
            · exact xb'.cell 0
            · exact xb'.cell 1
            · exact d1'
        clear hK K hC
        refine wpAnyC_done (by kernel_rfl) ?_ _
        clear xb xb' d1' hrow1 hdat1 U1 u1
        go_wp2
        go_roundw
        case rel => exact ⟨k + 1, by omega, by go_num, by rw [hs.out]; exact r1, U2⟩
        case measure => simp [intOf]; omega
      · have hs0 : Hid (crashTo ks torn m D.uf D.dur (k + 1) = if keeps ks k then carry (crashTo ks torn m D.uf D.dur k) bn data 255 else crashTo ks torn m D.uf D.dur k) := by have := hsucc.out; rw [if_neg ht] at this; exact this
        have ht' : ((k : Int) == torn) = false := by simpa using ht
        clear hsucc ht
        by_cases hkn : k < nk
        · obtain ⟨b, o, rfl, hcell⟩ := hkc hkn
          have hkn' : (k : Int) < (nk : Int) := by omega
          clear hkc
          cases hkeep : keeps ks k with
          | true =>
            have hs : Hid (crashTo ks torn m D.uf D.dur (k + 1) = carry (crashTo ks torn m D.uf D.dur k) bn data 255) := by have := hs0.out; rw [hkeep] at this; exact this
            rw [hkeep] at hcell
            clear hs0 U1'
            go_upto_region 6 with fail
            rw [← HV.out, ← HG.out]
            go_upto_region 9 with fail
            clear HV HG hcell
            refine wp_region_any (by kernel_rfl) ?_
            change wpAny _ _ _ _ _ _ _ (World.drew _)
            refine wpAny_take (i := 1) (v := ?_) rfl (by kernel_rfl) (by kernel_rfl) (by kernel_rfl) (fun _ _ _ h => h) (Or.inl ⟨by rfl, ?_⟩) ?_
            rotate_left
            · intro w
              go_simp
              with_reducible rfl
            refine wpAny_take (i := 2) (v := ?_) rfl (by kernel_rfl) (by kernel_rfl) (by kernel_rfl) (fun _ _ _ h => h) (Or.inl ⟨by rfl, ?_⟩) ?_
            rotate_left
            · intro w
              go_simp
              with_reducible rfl
            refine wpAny_take (i := 3) (v := ?_) rfl (by kernel_rfl) (by kernel_rfl) (by kernel_rfl) (fun _ _ _ h => h) (Or.inl ⟨by rfl, ?_⟩) ?_
            rotate_left
            · intro w
              go_simp
              with_reducible rfl
            simp only [Act.put, List.setIfInBounds_toArray, List.set_cons_zero, List.set_cons_succ, List.getElem_toArray, List.getElem_cons_zero, List.getElem_cons_succ]
            refine wpAny_of_class (C := SlotsCells [(10, .pointer (some ⟨G, 0, none⟩)), (49, .pointer (some ⟨g, 1, none⟩))] [(⟨G, 0, none⟩, .int .i64 (bn : Int)), (⟨G, 1, none⟩, .slice (some ⟨gk, 0, none⟩) 4096 ck), (⟨g, 1, none⟩, .slice (some ⟨gd, 0, none⟩) L cd)]) _ _ _ _ ?_
            have hC : ∀ q ∈ ([(⟨G, 0, none⟩, .int .i64 (bn : Int)), (⟨G, 1, none⟩, .slice (some ⟨gk, 0, none⟩) 4096 ck), (⟨g, 1, none⟩, .slice (some ⟨gd, 0, none⟩) L cd)] : List (Addr × Value)), V.drew.cell? q.1 = some q.2 := by
              intro q hq
              simp at hq
              rcases hq with rfl | rfl | rfl
              · exact xb.cell 0
              · exact xb.cell 1
              · exact d1
            refine wpAnyC_take (i := 0) (v := .agg #[.int .i64 (bn : Int), .slice (some ⟨gk, 0, none⟩) 4096 ck]) rfl (by kernel_rfl) (by kernel_rfl) (by kernel_rfl) (fun _ _ _ h => h) ?_ (fun fr u h => (SlotsCells.put 46 _ (by rfl)).1 h) (fun fr u h => (SlotsCells.put 46 _ (by rfl)).2 h) ?_ ?_
            · intro fr u hh
              obtain ⟨e1, e2⟩ := hh.load (s := 10) (p := ⟨G, 0, none⟩) (v := .int .i64 (bn : Int)) (by simp) (by simp)
              have e3 := hh.2 (⟨G, 1, none⟩, .slice (some ⟨gk, 0, none⟩) 4096 ck) (by simp)
              dsimp only at e3
              exact ⟨rfl, by simp [execOp, e1, go_sem, e2, e3]⟩
            · refine ⟨fun p hp => ?_, hC⟩
              simp at hp
              rcases hp with rfl | rfl <;> rfl
            simp only [Act.put, List.setIfInBounds_toArray, List.set_cons_zero, List.set_cons_succ, List.getElem_toArray, List.getElem_cons_zero]
            refine wpAnyC_take (i := 4) (v := .slice (some ⟨gd, 0, none⟩) L cd) rfl (by kernel_rfl) (by kernel_rfl) (by kernel_rfl) (fun _ _ _ h => h) ?_ (fun fr u h => (SlotsCells.put 50 _ (by rfl)).1 h) (fun fr u h => (SlotsCells.put 50 _ (by rfl)).2 h) ?_ ?_
            · intro fr u hh
              obtain ⟨e1, e2⟩ := hh.load (s := 49) (p := ⟨g, 1, none⟩) (v := .slice (some ⟨gd, 0, none⟩) L cd) (by simp) (by simp)
              exact ⟨rfl, by simp [execOp, e1, go_sem, e2]⟩
            · refine ⟨fun p hp => ?_, hC⟩
              simp at hp
              rcases hp with rfl | rfl <;> rfl
            simp only [Act.put, List.setIfInBounds_toArray, List.set_cons_zero, List.set_cons_succ, List.getElem_toArray, List.getElem_cons_zero, List.getElem_cons_succ]
            refine wpAnyC_one (i := 5) (by kernel_rfl) rfl (fun K hK => ?_)
            go_simp
            refine (carryOut_at bn gk ck gd cd L 255 data (crashTo ks torn m D.uf D.dur k) V.drew hdat1 hrow1 hps Hb2.out hlen.out hroom (by omega)).mono ?_
            rintro e w1 ⟨rfl, r1, u1⟩
            have U2 := U1.trans u1 (fun i e => .inl e)
            have d1' := (World.cell?_of_block (a := ⟨g, 1, none⟩) (u1.block g hgV hgd)).trans d1
            have xb' := u1.box xb hGd
            refine hK _ _ ⟨?_, ?_⟩
            · refine ⟨fun p hp => ?_, fun q hq => ?_⟩
              · simp at hp
                rcases hp with rfl | rfl <;> rfl
              · simp at hq
                rcases hq with rfl | rfl | rfl
                · exact xb'.cell 0
                · exact xb'.cell 1
                · exact d1'
            clear hK K hC
            refine wpAnyC_done (by kernel_rfl) ?_ _
            clear xb xb' d1' hrow1 hdat1 U1 u1
            go_wp2
            go_roundw
            case rel => exact ⟨k + 1, by omega, by go_num, by rw [hs.out]; exact r1, U2⟩
            case measure => simp [intOf]; omega
          | false =>
            have hs : Hid (crashTo ks torn m D.uf D.dur (k + 1) = crashTo ks torn m D.uf D.dur k) := by have := hs0.out; rw [hkeep] at this; exact this
            rw [hkeep] at hcell
            clear hs0 U1
            go_upto_region 6 with fail
            rw [← HV.out, ← HG.out]
            go_wp2
            go_roundw
            case rel => exact ⟨k + 1, by omega, by go_num, by rw [hs.out]; exact hrow1, U1'⟩
            case measure => simp [intOf]; omega
        · have hs : Hid (crashTo ks torn m D.uf D.dur (k + 1) = crashTo ks torn m D.uf D.dur k) := by have := hs0.out; rw [keeps_ge (by rw [Hks.out]; exact hkn)] at this; exact this
          have hkn' : ¬ (k : Int) < (nk : Int) := by omega
          clear hs0 U1 hkc
          go_upto_region 6 with fail
          rw [← HV.out, ← HG.out]
          go_wp2
          go_roundw
          case rel => exact ⟨k + 1, by omega, by go_num, by rw [hs.out]; exact hrow1, U1'⟩
          case measure => simp [intOf]; omega
    · obtain rfl : k = n := by omega
      obtain ⟨hl, hu⟩ := H.out.emptied _ U hrow (by rw [crashTo_length D H.out.ok])
      have b2 := U.box H.out.box hgd
      have b3 := b2.store 2 (.slice none 0 0)
      have b4 := ((((b3.store 4 (.bool false)).store 5 (.bool false)).store 6 (.int .i64 0)).store 7 (.bool false)).store 8 (.int .i64 0)
      have gr := grown_trans (grown_trans (grown_trans (grown_trans (grown_store (wr.setCell ⟨g, 2, none⟩ (.slice none 0 0)) g 4 (.bool false)) (grown_store _ g 5 (.bool false))) (grown_store _ g 6 (.int .i64 0))) (grown_store _ g 7 (.bool false))) (grown_store _ g 8 (.int .i64 0))
      have hcr : D.crash ks torn m = { D with dur := crashTo ks torn m D.uf D.dur k, uf := [], gone := false, arm := ⟨false, 0⟩, fail := ⟨false, 0⟩ } := by unfold DS.crash; rw [Hn.out]
      have hl2 := hl.turned (D' := D.crash ks torn m) gr (by rw [hcr]; exact b4) (by rw [hcr]) (by rw [hcr]) (H.out.ok.crash ks torn m)
      have hu2 : Upd F w _ := hu.grown gr (fun q e => by cases e; exact .inl H.out.fg)
      have f2 := b2.frozen 2
      obtain ⟨_, _, k2, _, k4, k5, k6, k7, k8⟩ := box_cells b2
      have f4 := b3.frozen 4
      have f5 := b3.frozen 5
      have f6 := b3.frozen 6
      have f7 := b3.frozen 7
      have f8 := b3.frozen 8
      clear b2 b3 b4 gr hcr hl hu
      go_wp2
      go_ret
      exact ⟨rfl, ⟨_, _, _, _, hl2⟩, hu2⟩

theorem crash_none {g : Nat} {w : World} {D : DS} {F : Nat → Prop} {gd cd : Nat} {vu : Value} {ps : List (Nat × Nat × Nat)} (h : Lies w g D F gd cd vu ps) (h0 : D.uf.length = 0) (ak : Option Addr) (nk ck0 : Nat) (ks : List Bool) (torn : Int) (m : Nat) :
    Calls Try.prog 12 #[.pointer (some ⟨g, 0, none⟩), .slice ak nk ck0, .int .i64 torn, .int .u8 (m : Int)] w fun e w' => e = .returned (.int .i64 0) ∧ IsDisk w' g (D.crash ks torn m) F ∧ Upd F w w' := by
  have c := isMade_at h
  obtain ⟨av, cu, rfl⟩ : ∃ av cu, vu = .slice av 0 cu := by
    rcases h.row.2 with ⟨h1, _⟩ | ⟨gv, cu, cur, hv, _⟩
    · exact ⟨none, 0, h1⟩
    · exact ⟨some ⟨gv, 0, none⟩, cu, by rw [hv, h0]⟩
  have hcr : D.crash ks torn m = { D with dur := D.dur, uf := [], gone := false, arm := ⟨false, 0⟩, fail := ⟨false, 0⟩ } := by unfold DS.crash; rw [h0]; rfl
  obtain ⟨hl, hu⟩ := h.emptied D.dur (Upd.refl _ _) h.dur rfl
  have b2 := h.box
  have b3 := b2.store 2 (.slice none 0 0)
  have b4 := ((((b3.store 4 (.bool false)).store 5 (.bool false)).store 6 (.int .i64 0)).store 7 (.bool false)).store 8 (.int .i64 0)
  have gr := grown_trans (grown_trans (grown_trans (grown_trans (grown_store (w.setCell ⟨g, 2, none⟩ (.slice none 0 0)) g 4 (.bool false)) (grown_store _ g 5 (.bool false))) (grown_store _ g 6 (.int .i64 0))) (grown_store _ g 7 (.bool false))) (grown_store _ g 8 (.int .i64 0))
  have hl2 := hl.turned (D' := D.crash ks torn m) gr (by rw [hcr]; exact b4) (by rw [hcr]) (by rw [hcr]) (h.ok.crash ks torn m)
  have hu2 : Upd F w _ := hu.grown gr (fun q e => by cases e; exact .inl h.fg)
  have f2 := b2.frozen 2
  obtain ⟨_, _, k2, _, k4, k5, k6, k7, k8⟩ := box_cells b2
  have f4 := b3.frozen 4
  have f5 := b3.frozen 5
  have f6 := b3.frozen 6
  have f7 := b3.frozen 7
  have f8 := b3.frozen 8
  clear b2 b3 b4 gr hcr hl hu h0
  go_enter Try.func12, Try.ntmps12
  go_wp2_with fail
  refine c.mono ?_
  rintro e w' ⟨rfl, rfl⟩
  go_wp2_with fail
  refine wp_loop_rounds 1 ?_
  rw [rounds_succ]
  go_wp2
  go_ret
  exact ⟨rfl, ⟨_, _, _, _, hl2⟩, hu2⟩

/-- Crash -/
theorem crash_at {g : Nat} {w : World} {D : DS} {F : Nat → Prop} (hd : IsDisk w g D F) (ak : Option Addr) (nk ck0 : Nat) (ks : List Bool) (torn : Int) (m : Nat) (hm : m < 256) (hks : ks.length = nk) (hnk : nk ≤ 9223372036854775807) (hrk : RdBl w ak ks) (hkF : ∀ ad, ak = some ad → 0 < nk → ¬ F ad.block) :
    Calls Try.prog 12 #[.pointer (some ⟨g, 0, none⟩), .slice ak nk ck0, .int .i64 torn, .int .u8 (m : Int)] w fun e w' => e = .returned (.int .i64 0) ∧ IsDisk w' g (D.crash ks torn m) F ∧ Upd F w w' := by
  obtain ⟨gd, cd, vu, ps, h⟩ := hd
  by_cases h0 : 0 < D.uf.length
  · exact crashLoop h h0 ak nk ck0 ks torn m hm hks hnk hrk hkF
  · exact crash_none h (by omega) ak nk ck0 ks torn m
end Go.Proofs.Ytagnmmapnpcijaa
