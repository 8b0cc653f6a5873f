/-
  DkCarry, DkAll, DkFlush, DkCrash, DkLate, DkWrite, DkTold, HLay, HHomeAt, HRisAny, HHomeNo, HHomeAny, HArgT, HRefRt, RcCopyI, HRefHp, HRefHm, DkBackw, DkCopy, DkStand, DkInts, DkRefD, DkRefOp, DkRefRow, DkRefAt, DkBlk, DkRefImg: put together.
-/
import Derived.Test.YtdkaacjeogifdaaGreatG3
import Derived.Deep.Cut
import Derived.ProofKit
import Derived.OpenShut
import Derived.ChangeOld
import Derived.Below
import Derived.Deep.Slices
import Derived.Deep.Strs
import Derived.Test.YtdkaacjeogifdaaGreatRows
import Derived.Deep.RegionHeld3
import Derived.Deep.AppendLies
import Derived.Deep.QuietTactic
import Derived.RangeFuncNested
import Derived.RangeFuncBound
import Derived.RangeFuncCalls
import Derived.RangeFuncLeaves
import Derived.Shelf.Abstract
import Derived.Shelf.RegionOpen
import Derived.WalkKit
import Derived.OwnWalkIn
import Derived.TacticsInMore
import Derived.LoopNIn
import Derived.LoopIn
/-
  Writes that are carried out upon an image.
-/
namespace Go.Proofs.YtdkaacjeogifdaaGreat.Dk
open Go.RowKit

theorem Upd.box {F : Nat → Prop} {w w' : World} {g : Nat} {cs : Array Value} {t : TypeId} (h : Upd F w w') (hb : Box w g cs t) (hg : ¬ F g) : Box w' g cs t := (h.block g hb.lt hg).trans hb
theorem Upd.rowB {F : Nat → Prop} {w w' : World} {g cap : Nat} {ys : List UInt8} (h : Upd F w w') (hb : RowB w g cap ys) (hg : ¬ F g) : RowB w' g cap ys := hb.same (h.block g hb.lt hg)
theorem Rd.part {w : World} {g o : Nat} {xs : List UInt8} (h : Rd w (some ⟨g, o, none⟩) xs) (k n : Nat) : Rd w (some ⟨g, o + k, none⟩) ((xs.drop k).take n) := fun hp => by
  have hk : k < xs.length := by simp at hp; omega
  obtain ⟨b', o', he, hc⟩ := h (by omega)
  simp only [Option.some.injEq, Addr.mk.injEq, and_true] at he
  obtain ⟨rfl, rfl⟩ := he
  refine ⟨g, o + k, rfl, fun j hj => ?_⟩
  have hj' : k + j < xs.length := by simp at hj; omega
  rw [Nat.add_assoc, hc (k + j) hj']
  simp

theorem and_one8 (a : Nat) (ha : a < 256) : bits .and .u8 (a : Int) 1 = ((a % 2 : Nat) : Int) := by
  have h := bits_mask .u8 8 (by decide) (fun n h0 h1 => by rw [IntKind.wrap_u8]; omega) 1 (by decide) (a : Int) (by omega) (by omega)
  simpa using h
theorem bitI (m k : Nat) (hm : m < 256) : (bits .and .u8 ((m : Int) / 2 ^ k) 1 == 1) = bit m k := by
  unfold bit
  have e : ((m : Int) / 2 ^ k) = ((m / 2 ^ k : Nat) : Int) := by push_cast; rfl
  rw [e, and_one8 _ (Nat.lt_of_le_of_lt (Nat.div_le_self _ _) hm)]
  rcases Nat.mod_two_eq_zero_or_one (m / 2 ^ k) with h | h <;> rw [h] <;> rfl

theorem part_i (g o len cap n size : Nat) (N S : Int) (w : World) (hN : N = (n : Int)) (hS : S = (size : Int)) (hf : n * size + size ≤ cap) (hc : cap ≤ 9223372036854775807) (hs : 0 < size) :
    Calls Tryz.prog 83 #[.slice (some ⟨g, o, none⟩) len cap, .int .i64 N, .int .i64 S] w fun e w' => e = .returned (.slice (some ⟨g, o + n * size, none⟩) size size) ∧ w = w' := by
  subst hN hS
  exact part_at g o len cap n size w hf hc hs

set_option maxRecDepth 100000 in
set_option maxHeartbeats 1000000 in
theorem carryOut_at (b gk ck gd cd L m : Nat) (data d : List UInt8) (w : World) (hk : RowB w gk ck data) (hd : RowB w gd cd d) (hne : gk ≠ gd) (hdl : data.length = 4096) (hL : d.length = L) (hb : b * 4096 + 4096 ≤ L) (hm : m < 256) :
    Calls Tryz.prog 67 #[.agg #[.int .i64 (b : Int), .slice (some ⟨gk, 0, none⟩) 4096 ck], .slice (some ⟨gd, 0, none⟩) L cd, .int .u8 (m : Int)] w fun e w' => e = .returned (.tuple #[]) ∧ RowB w' gd cd (carry d b data m) ∧ Upd (fun i => i = gd) w w' := by
  have x0 := Box.new w #[.int .i64 (b : Int), .slice (some ⟨gk, 0, none⟩) 4096 ck] 89
  have U0 := (Upd.refl (fun i => i = gd) w).alloc (.cells #[.int .i64 (b : Int), .slice (some ⟨gk, 0, none⟩) 4096 ck] 89)
  have hglt := hd.lt
  have hklt := hk.lt
  have hcd : L ≤ cd ∧ cd ≤ 9223372036854775807 := by
    obtain ⟨_, _, h1, h2, _⟩ := hd
    unfold maxLen at h2
    omega
  have hck : 4096 ≤ ck ∧ ck ≤ 9223372036854775807 := by
    obtain ⟨_, _, h1, h2, _⟩ := hk
    unfold maxLen at h2
    omega
  go_enter Tryz.func67, Tryz.ntmps67
  go_wp2_with fail
  obtain ⟨W, hW⟩ : ∃ W, W = w.alloc (.cells #[.int .i64 (b : Int), .slice (some ⟨gk, 0, none⟩) 4096 ck] 89) := ⟨_, rfl⟩
  rw [← hW] at x0 U0 ⊢
  have k0 := U0.rowB hk (fun h => hne h)
  have d0 : RowB W gd cd d := hd.same (by rw [hW]; exact Below.heap_alloc w _ gd hglt)
  obtain ⟨G, hG⟩ : ∃ G, G = w.heap.size := ⟨_, rfl⟩
  rw [← hG] at x0 ⊢
  have HL : Hid _ := hL
  have Hdl : Hid _ := hdl
  have hGd : G ≠ gd := by omega
  clear hW hG hk hd hL hdl hglt hklt
  refine (part_i gd 0 L cd b 4096 _ _ W rfl rfl (by omega) (by omega) (by omega)).mono ?_
  rintro e w' ⟨rfl, rfl⟩
  rw [Nat.zero_add]
  obtain ⟨O, hO⟩ : ∃ O, O = b * 4096 := ⟨_, rfl⟩
  rw [← hO]
  have HO : Hid _ := hO
  rw [← hO] at hb
  clear hO
  go_wp2_with fail
  go_loopw [12] (fun i wr => ∃ k : Nat, k ≤ 8 ∧ i = .int .i64 k ∧ Box wr G #[.int .i64 (b : Int), .slice (some ⟨gk, 0, none⟩) 4096 ck] 89 ∧ RowB wr gd cd (carryN d b data m k) ∧ RowB wr gk ck data ∧ Upd (fun i => i = gd) w wr) (fun i _ => 8 - (intOf i).toNat)
  case atStart => exact ⟨0, Nat.zero_le _, rfl, x0, d0, k0, U0⟩
  case round =>
    obtain ⟨k, hk, rfl, x, hd, hkd, U⟩ := hrel
    clear x0 d0 k0 U0
    by_cases hlt : k < 8
    · have hlt2 : (k : Int) < 8 := by omega
      have hbi := bitI m k hm
      have hcl : (carryN d b data m k).length = L := by rw [carryN_length d b data m (by rw [HL.out, ← HO.out]; exact hb) Hdl.out k hk, HL.out]
      have hsucc : carryN d b data m (k + 1) = if bit m k then putAt (carryN d b data m k) (b * 4096 + k * 512) (sec data k) else carryN d b data m k := rfl
      have Hcl : Hid _ := hcl
      have Hsucc : Hid _ := hsucc
      clear hcl hsucc
      cases hbit : bit m k with
      | false =>
        rw [hbit] at hbi
        have Hs : Hid (carryN d b data m (k + 1) = carryN d b data m k) := by have := Hsucc.out; rw [hbit] at this; exact this
        clear Hsucc
        go_wp2_with fail
        go_roundw
        case rel => exact ⟨k + 1, by omega, by go_num, x, by rw [Hs.out]; exact hd, hkd, U⟩
        case measure => simp [intOf]; omega
      | true =>
        rw [hbit] at hbi
        have Hs : Hid (carryN d b data m (k + 1) = putAt (carryN d b data m k) (O + k * 512) (sec data k)) := by have := Hsucc.out; rw [hbit, ← HO.out] at this; exact this
        clear Hsucc
        have hsl := sec_length data k Hdl.out hlt
        have x1 := x.cell 1
        simp only [List.getElem?_toArray, List.getElem?_cons_zero, List.getElem?_cons_succ] at x1
        have dr : RowB wr.drew gd cd (carryN d b data m k) := hd
        have kr : RowB wr.drew gk ck data := hkd
        have rs : Rd wr.drew (some ⟨gk, k * 512, none⟩) (sec data k) := by have := kr.rd.part (k * 512) 512; rw [Nat.zero_add] at this; exact this
        obtain ⟨V, hcp, hV, hgV⟩ := copy_row gd cd (O + k * 512) 512 512 (some ⟨gk, k * 512, none⟩) 512 (sec data k) (carryN d b data m k) wr.drew dr rs (by omega) (by rw [Hcl.out, hsl]; omega) (by omega)
        rw [hsl] at hcp
        have U2 : Upd (fun i => i = gd) w V := (U.drew).grown hgV (fun q e => by cases e; exact .inl rfl)
        have xV : Box V G #[.int .i64 (b : Int), .slice (some ⟨gk, 0, none⟩) 4096 ck] 89 := (hgV.block G x.lt (by simpa using hGd)).trans x
        have kV : RowB V gk ck data := kr.same (hgV.block gk kr.lt (by simpa using hne))
        clear hsl hgV dr kr rs
        go_wp2_with fail
        refine wp_region_any (by kernel_rfl) ?_
        change wpAny _ _ _ _ _ _ _ (World.drew _)
        refine wpAny_take (i := 0) (v := ?_) rfl (by kernel_rfl) (by kernel_rfl) (by kernel_rfl) (fun _ _ _ h => h) (Or.inl ⟨by rfl, ?_⟩) ?_
        rotate_left
        · intro w
          go_simp
          with_reducible rfl
        refine wpAny_take (i := 1) (v := ?_) rfl (by kernel_rfl) (by kernel_rfl) (by kernel_rfl) (fun _ _ _ h => h) (Or.inl ⟨by rfl, ?_⟩) ?_
        rotate_left
        · intro w
          go_simp
          with_reducible rfl
        refine wpAny_take (i := 3) (v := ?_) rfl (by kernel_rfl) (by kernel_rfl) (by kernel_rfl) (fun _ _ _ h => h) (Or.inl ⟨by rfl, ?_⟩) ?_
        rotate_left
        · intro w
          go_simp
          with_reducible rfl
        refine wpAny_take (i := 5) (v := ?_) rfl (by kernel_rfl) (by kernel_rfl) (by kernel_rfl) (fun _ _ _ h => h) (Or.inl ⟨by rfl, ?_⟩) ?_
        rotate_left
        · intro w
          go_simp
          with_reducible rfl
        simp only [Act.put, List.setIfInBounds_toArray, List.set_cons_zero, List.set_cons_succ, List.getElem_toArray, List.getElem_cons_zero, List.getElem_cons_succ]
        refine wpAny_of_class (C := SlotsCells [(23, .pointer (some ⟨G, 1, none⟩))] [(⟨G, 1, none⟩, .slice (some ⟨gk, 0, none⟩) 4096 ck)]) _ _ _ _ ?_
        have hq : ∀ u : World, Box u G #[.int .i64 (b : Int), .slice (some ⟨gk, 0, none⟩) 4096 ck] 89 → ∀ q ∈ ([(⟨G, 1, none⟩, .slice (some ⟨gk, 0, none⟩) 4096 ck)] : List (Addr × Value)), u.cell? q.1 = some q.2 := by
          intro u hu q hq
          simp at hq
          subst hq
          exact hu.cell 1
        have xd : Box wr.drew G #[.int .i64 (b : Int), .slice (some ⟨gk, 0, none⟩) 4096 ck] 89 := x
        refine wpAnyC_take (i := 4) (v := .slice (some ⟨gk, 0, none⟩) 4096 ck) rfl (by kernel_rfl) (by kernel_rfl) (by kernel_rfl) (fun _ _ _ h => h) ?_ (fun fr u h => (SlotsCells.put 24 _ (by rfl)).1 h) (fun fr u h => (SlotsCells.put 24 _ (by rfl)).2 h) ?_ ?_
        · intro fr u hh
          obtain ⟨e1, e2⟩ := hh.load (s := 23) (p := ⟨G, 1, none⟩) (v := .slice (some ⟨gk, 0, none⟩) 4096 ck) (by simp) (by simp)
          exact ⟨rfl, by simp [execOp, e1, go_sem, e2]⟩
        · refine ⟨fun p hp => ?_, hq _ xd⟩
          simp at hp
          subst hp
          rfl
        simp only [Act.put, List.setIfInBounds_toArray, List.set_cons_zero, List.set_cons_succ, List.getElem_toArray, List.getElem_cons_zero, List.getElem_cons_succ]
        refine wpAnyC_one (i := 2) (by kernel_rfl) rfl (fun K hK => ?_)
        go_simp
        refine (part_i gd O 4096 4096 k 512 _ _ wr.drew rfl rfl (by omega) (by omega) (by omega)).mono ?_
        rintro e w' ⟨rfl, rfl⟩
        refine hK _ _ ⟨?_, ?_⟩
        · refine ⟨fun p hp => ?_, hq _ xd⟩
          simp at hp
          subst hp
          rfl
        clear hK K
        refine wpAnyC_one (i := 6) (by kernel_rfl) rfl (fun K hK => ?_)
        go_simp
        refine (part_i gk 0 4096 ck k 512 _ _ wr.drew rfl rfl (by omega) (by omega) (by omega)).mono ?_
        rintro e w' ⟨rfl, rfl⟩
        rw [Nat.zero_add]
        refine hK _ _ ⟨?_, ?_⟩
        · refine ⟨fun p hp => ?_, hq _ xd⟩
          simp at hp
          subst hp
          rfl
        clear hK K
        refine wpAnyC_one (i := 7) (by kernel_rfl) rfl (fun K hK => ?_)
        go_simp
        refine hK _ _ ⟨?_, ?_⟩
        · refine ⟨fun p hp => ?_, hq _ xV⟩
          simp at hp
          subst hp
          rfl
        clear hK K hcp
        refine wpAnyC_done (by kernel_rfl) ?_ _
        go_wp2_with fail
        go_roundw
        case rel => exact ⟨k + 1, by omega, by go_num, xV, by rw [Hs.out]; exact hV, kV, U2⟩
        case measure => simp [intOf]; omega
    · obtain rfl : k = 8 := by omega
      go_wp2
      go_end0
      exact ⟨rfl, hd, U⟩
end Go.Proofs.YtdkaacjeogifdaaGreat.Dk

/-
  All unflushed writes carried out; Flush, Image, Crash.
-/
namespace Go.Proofs.YtdkaacjeogifdaaGreat.Dk
open Go.RowKit

/-- the row of the unflushed writes, cell by cell -/
theorem Lies.writes {w : World} {g : Nat} {D : DS} {F : Nat → Prop} {gd cd : Nat} {vu : Value} {ps : List (Nat × Nat × Nat)} (h : Lies w g D F gd cd vu ps) (h0 : 0 < D.uf.length) :
    ∃ gv cu cur, vu = .slice (some ⟨gv, 0, none⟩) D.uf.length cu ∧ D.uf.length ≤ cu ∧ cu ≤ 9223372036854775807 ∧ Box w gv cur 89 ∧
      ∀ k (hk : k < D.uf.length) (hp : k < ps.length), w.cell? ⟨gv, 0 + k * 2, none⟩ = some (.int .i64 (D.uf[k].1 : Int)) ∧ w.cell? ⟨gv, 0 + k * 2 + 1, none⟩ = some (.slice (some ⟨ps[k].2.1, 0, none⟩) 4096 ps[k].2.2) := by
  rcases h.row.2 with ⟨_, h1⟩ | ⟨gv, cu, cur, hv, hb, hg, hn, hm, hs, ht⟩
  · omega
  · refine ⟨gv, cu, cur, hv, hn, by unfold maxLen at hm; omega, hg, fun k hk hkp => ?_⟩
    obtain ⟨a0, a1⟩ := wcs_at ps k hkp
    have hc := h.row.cells (g := gv) (by rw [hv]; rfl)
    have c0 := hc _ _ a0
    have c1 := hc _ _ a1
    rw [Addr.add_lit] at c0 c1
    obtain ⟨e, _⟩ := h.each k hkp hk
    rw [e] at c0
    exact ⟨c0, c1⟩

set_option maxRecDepth 100000 in
set_option maxHeartbeats 1000000 in
theorem carryAll_at {g : Nat} {w : World} {D : DS} {F : Nat → Prop} {gd cd : Nat} {vu : Value} {ps : List (Nat × Nat × Nat)} (h : Lies w g D F gd cd vu ps) (gi ci L : Nat) (d : List UInt8) (hi : RowB w gi ci d) (hL : L = D.nb * 4096) (hd : d.length = L) (hne : ∀ k (hk : k < ps.length), ps[k].2.1 ≠ gi) :
    Calls Tryz.prog 47 #[.pointer (some ⟨g, 0, none⟩), .slice (some ⟨gi, 0, none⟩) L ci] w fun e w' => e = .returned (.tuple #[]) ∧ RowB w' gi ci (carryTo D.uf d D.uf.length) ∧ Upd (fun i => i = gi) w w' := by
  obtain ⟨_, _, c2, _⟩ := box_cells h.box
  by_cases h0 : 0 < D.uf.length
  · obtain ⟨gv, cu, cur, rfl, hcu, hmu, hbv, hcells⟩ := h.writes h0
    have hgi : gv ≠ gi := by
      obtain ⟨cur', hb', _⟩ := hi
      exact hbv.ne hb' (by decide)
    have Hcells : Hid _ := hcells
    have hlt := hbv.lt
    have Hd : Hid _ := hd
    have HL : Hid _ := hL
    have H : Hid (Lies w g D F gd cd (.slice (some ⟨gv, 0, none⟩) D.uf.length cu) ps) := h
    obtain ⟨n, hn⟩ : ∃ n, n = D.uf.length := ⟨_, rfl⟩
    rw [← hn] at hcu c2 ⊢
    have Hn : Hid _ := hn
    clear hcells hd hL h hn h0
    go_enter Tryz.func47, Tryz.ntmps47
    go_wp2_with fail
    go_loopw [11] (fun i wr => ∃ k : Nat, k ≤ n ∧ i = .int .i64 k ∧ RowB wr gi ci (carryTo D.uf d k) ∧ Upd (fun i => i = gi) w wr) (fun i _ => n - (intOf i).toNat)
    case atStart => exact ⟨0, Nat.zero_le _, rfl, hi, Upd.refl _ _⟩
    case round =>
      obtain ⟨k, hk, rfl, hrow, U⟩ := hrel
      clear hi
      by_cases hlt' : k < n
      · have hk' : k < D.uf.length := by rw [← Hn.out]; exact hlt'
        have hkp : k < ps.length := by rw [H.out.len]; exact hk'
        obtain ⟨a0, a1⟩ := Hcells.out k hk' hkp
        obtain ⟨_, hdat, _, _⟩ := H.out.each k hkp hk'
        obtain ⟨hb1, hb2⟩ := H.out.ok.at k hk'
        have hps := hne k hkp
        have hsucc : Hid (carryTo D.uf d (k + 1) = carry (carryTo D.uf d k) D.uf[k].1 D.uf[k].2 255) := carryTo_succ D.uf d k hk'
        have hlen : Hid ((carryTo D.uf d k).length = L) := by rw [carryTo_length D H.out.ok d (by rw [Hd.out, HL.out, H.out.ok.len]) k]; exact Hd.out
        have hroom : D.uf[k].1 * 4096 + 4096 ≤ L := by rw [HL.out]; omega
        generalize (ps[k]'hkp).2.1 = gk at a1 hdat hps
        generalize (ps[k]'hkp).2.2 = ck at a1 hdat
        generalize (D.uf[k]'hk').2 = data at hdat hb2 hsucc
        generalize (D.uf[k]'hk').1 = bn at a0 hsucc hb1 hroom
        have a0' := (World.cell?_of_block (a := ⟨gv, 0 + k * 2, none⟩) (U.block gv hlt hgi)).trans a0
        have a1' := (World.cell?_of_block (a := ⟨gv, 0 + k * 2 + 1, none⟩) (U.block gv hlt hgi)).trans a1
        simp only [Nat.zero_add] at a0' a1'
        have hdat' := U.rowB hdat hps
        have bA := (Below.refl wr.heap.size wr).alloc (Nat.le_refl _) (.cells #[.int .i64 (bn : Int), .slice (some ⟨gk, 0, none⟩) 4096 ck] 89)
        have U1 := U.alloc (.cells #[.int .i64 (bn : Int), .slice (some ⟨gk, 0, none⟩) 4096 ck] 89)
        have hrow1 := hrow.same (bA.block gi hrow.lt)
        have hdat1 := hdat'.same (bA.block gk hdat'.lt)
        have Hb2 : Hid _ := hb2
        clear a0 a1 hdat hdat' hb2 bA
        go_wp2_with fail
        refine (carryOut_at bn gk ck gi ci L 255 data (carryTo D.uf d k) _ hdat1 hrow1 hps Hb2.out hlen.out hroom (by omega)).mono ?_
        rintro e w1 ⟨rfl, r1, u1⟩
        have U2 := U1.trans u1 (fun i e => .inl e)
        clear hrow hrow1 hdat1 U1 u1 U
        go_wp2
        go_roundw
        case rel => exact ⟨k + 1, by omega, by go_num, by rw [hsucc.out]; exact r1, U2⟩
        case measure => simp [intOf]; omega
      · obtain rfl : k = n := by omega
        go_wp2
        go_end0
        exact ⟨rfl, hrow, U⟩
  · have hn : D.uf.length = 0 := by omega
    rw [hn]
    have hv : vu = .slice none 0 0 ∨ ∃ ad cu, vu = .slice (some ad) 0 cu := by
      rcases h.row.2 with ⟨h1, _⟩ | ⟨gv, cu, cur, hv, _⟩
      · exact .inl h1
      · exact .inr ⟨⟨gv, 0, none⟩, cu, by rw [hv, hn]⟩
    obtain ⟨av, cu, rfl⟩ : ∃ av cu, vu = .slice av 0 cu := by
      rcases hv with rfl | ⟨ad, cu, rfl⟩
      · exact ⟨none, 0, rfl⟩
      · exact ⟨some ad, cu, rfl⟩
    clear hv hd
    go_enter Tryz.func47, Tryz.ntmps47
    go_wp2_with fail
    refine wp_loop_rounds 1 ?_
    rw [rounds_succ]
    go_wp2
    go_end0
    exact ⟨rfl, hi, Upd.refl _ _⟩
end Go.Proofs.YtdkaacjeogifdaaGreat.Dk

/-
  Flush, Image.
-/
namespace Go.Proofs.YtdkaacjeogifdaaGreat.Dk
open Go.RowKit

/-- The unflushed writes are gone, what is durable has turned. -/
theorem Lies.emptied {w w1 : World} {g : Nat} {D : DS} {F : Nat → Prop} {gd cd : Nat} {vu : Value} {ps : List (Nat × Nat × Nat)} (h : Lies w g D F gd cd vu ps) (d : List UInt8) (hu : Upd (fun i => i = gd) w w1) (hr : RowB w1 gd cd d) (hl : d.length = D.dur.length) :
    Lies (w1.setCell ⟨g, 2, none⟩ (.slice none 0 0)) g { D with dur := d, uf := [] } F gd cd (.slice none 0 0) [] ∧ Upd F w (w1.setCell ⟨g, 2, none⟩ (.slice none 0 0)) := by
  have hne : g ≠ gd := by
    obtain ⟨cur, hb, _⟩ := h.dur
    exact h.box.ne hb (by decide)
  have b1 := hu.box h.box hne
  have b2 := b1.store 2 (.slice none 0 0)
  have gr := grown_store w1 g 2 (.slice none 0 0)
  refine ⟨⟨b2, hr.same (gr.block gd hr.lt (by simpa using hne.symm)), World.ownsRow_nil _ _ _ _, rfl, fun k hk => by simp at hk, h.fg, h.fd, fun k hk => by simp [Value.ownBlock] at hk, fun i hi => Nat.lt_of_lt_of_le (h.flt i hi) (Nat.le_trans hu.size gr.size), ?_⟩, ?_⟩
  · exact ⟨by show d.length = _; rw [hl, h.ok.len], h.ok.lo, h.ok.hi, by simp, h.ok.arm, h.ok.fail⟩
  · have u0 : Upd F w w1 := ⟨hu.os, hu.tape, hu.output, hu.size, fun k hk hn => hu.block k hk (fun e => hn (by rw [e]; exact h.fd))⟩
    exact u0.setCell (.inl h.fg) _

set_option maxRecDepth 100000 in
theorem flush_at {g : Nat} {w : World} {D : DS} {F : Nat → Prop} (hd : IsDisk w g D F) :
    Calls Tryz.prog 63 #[.pointer (some ⟨g, 0, none⟩)] w fun e w' => e = .returned (.int .i64 (D.operE : Int)) ∧ IsDisk w' g D.flush F ∧ Upd F w w' := by
  obtain ⟨gd, cd, vu, ps, h⟩ := hd
  have c := isMade_at h
  have hfl : Hid (D.flush = if D.operE = 0 then { D.oper with dur := D.image, uf := [] } else D.oper) := rfl
  have cO := operation_at h
  obtain ⟨E, hE⟩ : ∃ E, E = D.operE := ⟨_, rfl⟩
  rw [← hE] at hfl cO ⊢
  clear hE
  have hnb := D.oper_nb
  have hdur := D.oper_dur
  have huf := D.oper_uf
  have hfg := h.fg
  have himg : Hid (D.image = carryTo D.uf D.dur D.uf.length) := rfl
  generalize D.flush = Fl at hfl ⊢
  have Hnb : Hid _ := hnb
  have Hdur : Hid _ := hdur
  have Huf : Hid _ := huf
  clear hnb hdur huf
  by_cases h0 : E = 0
  · subst h0
    have hfl' : Hid (Fl = { D.oper with dur := D.image, uf := [] }) := by have := hfl.out; rw [if_pos rfl] at this; exact this
    clear hfl
    go_enter Tryz.func63, Tryz.ntmps63
    go_wp2_with fail
    refine c.mono ?_
    rintro e w' ⟨rfl, rfl⟩
    go_wp2_with fail
    refine cO.mono ?_
    rintro e w1 ⟨rfl, h1, g1⟩
    clear cO c
    obtain ⟨_, c1, _⟩ := box_cells h1.box
    have hneq : ∀ k (hk : k < ps.length), ps[k].2.1 ≠ gd := fun k hk => (h1.each k hk (by rw [← h1.len]; exact hk)).2.2.1
    go_wp2_with fail
    refine (carryAll_at h1 gd cd (D.oper.nb * 4096) D.oper.dur h1.dur rfl (by rw [h1.ok.len]) hneq).mono ?_
    rintro e w2 ⟨rfl, r2, u2⟩
    have hlen : (carryTo D.oper.uf D.oper.dur D.oper.uf.length).length = D.oper.dur.length := carryTo_length D.oper h1.ok D.oper.dur rfl _
    obtain ⟨hl, hu⟩ := h1.emptied _ u2 r2 hlen
    have hu0 : Upd F w w1 := (Upd.refl F w).grown g1 (fun k e => by cases e; exact .inl hfg)
    have hu3 := hu0.trans hu (fun i hi => .inl hi)
    rw [Huf.out, Hdur.out, ← himg.out] at hl
    have b2 : Box w2 g _ 81 := u2.box h1.box (by
      obtain ⟨cur, hb, _⟩ := h1.dur
      exact h1.box.ne hb (by decide))
    have f2 := b2.frozen 2
    obtain ⟨_, _, c2, _⟩ := box_cells b2
    clear c1 r2 u2 hu hu0 b2 h1 g1 hlen
    go_wp2
    go_ret
    rw [hfl'.out]
    exact ⟨rfl, ⟨_, _, _, _, hl⟩, hu3⟩
  · have hfl' : Hid (Fl = D.oper) := by have := hfl.out; rw [if_neg h0] at this; exact this
    have h0' : ((E : Int) != 0) = true := by simp; omega
    clear hfl h0
    go_enter Tryz.func63, Tryz.ntmps63
    go_wp2_with fail
    refine c.mono ?_
    rintro e w' ⟨rfl, rfl⟩
    go_wp2_with fail
    refine cO.mono ?_
    rintro e w1 ⟨rfl, h1, g1⟩
    have hu0 : Upd F w w1 := (Upd.refl F w).grown g1 (fun k e => by cases e; exact .inl hfg)
    clear cO c
    go_wp2
    go_ret
    rw [hfl'.out]
    exact ⟨rfl, ⟨_, _, _, _, h1⟩, hu0⟩

end Go.Proofs.YtdkaacjeogifdaaGreat.Dk

/-
  Crash.
-/
namespace Go.Proofs.YtdkaacjeogifdaaGreat.Dk
open Go.RowKit

/-- These bools lie where a says (of none nothing is asked). -/
def RdBl (w : World) (a : Option Addr) (ks : List Bool) : Prop :=
  0 < ks.length → ∃ b o, a = some ⟨b, o, none⟩ ∧ ∀ j (h : j < ks.length), w.cell? ⟨b, o + j, none⟩ = some (.bool ks[j])
theorem RdBl.nil (w : World) (a : Option Addr) : RdBl w a [] := fun h => absurd h (by simp)

theorem keeps_lt {ks : List Bool} {k : Nat} (h : k < ks.length) : keeps ks k = ks[k] := by simp [keeps, List.getElem?_eq_getElem h]
theorem keeps_ge {ks : List Bool} {k : Nat} (h : ¬ k < ks.length) : keeps ks k = false := by simp [keeps, List.getElem?_eq_none (Nat.le_of_not_lt h)]

end Go.Proofs.YtdkaacjeogifdaaGreat.Dk

/-
  As Loads: but operations that wait for the taken one (late) may leave the class.
-/
namespace Go.Proofs.YtdkaacjeogifdaaGreat.Dk

section
variable {P : Program} {ops : Array Oper} {Q : Exit → Act → World → Prop} {md : Region.Mode} {C : Act → World → Prop} {late : List Nat}

/-- Whatever order the draw gives: it ends in Q, and every step stays in the class, but for the late ones. -/
def wpAnyD (P : Program) (md : Region.Mode) (ops : Array Oper) (Q : Exit → Act → World → Prop) (C : Act → World → Prop) (late : List Nat) : Nat → Array Bool → Act → World → Prop
  | 0, listed, a, w => Region.ready md ops listed = [] ∧ Q .normal a w
  | fuel + 1, listed, a, w => (Region.ready md ops listed = [] → Q .normal a w) ∧
    ∀ i ∈ Region.ready md ops listed, wpOp P ops Q i (fun a' w' => (late.contains i = true ∨ C a' w') ∧ wpAnyD P md ops Q C late fuel (listed.setIfInBounds i true) a' w') a w

theorem wpAny_of_late : ∀ (fuel : Nat) (listed : Array Bool) (a : Act) (w : World), wpAnyD P md ops Q C late fuel listed a w → wpAny P md ops Q fuel listed a w
  | 0, _, _, _, h => h
  | fuel + 1, _, _, _, h => ⟨h.1, fun i hi => wpOp_mono (fun a' w' h' => wpAny_of_late fuel _ a' w' h'.2) (h.2 i hi)⟩

/-- Each late operation waits for operation i. -/
def waits (md : Region.Mode) (ops : Array Oper) (late : List Nat) (i : Nat) : Bool := late.all fun j => match ops[j]? with | some o => o.after.any fun e => Region.binds md e && e.on == i | none => true

theorem wpAnyD_first {i : Nat} {oi : Oper} {v : Value} (hi : ops[i]? = some oi) (hs : Region.noSelect ops = true) (hl : waits md ops late i = true)
    (hQ : ∀ c a w, Q (.panic c) (a.put oi.dst v) w → Q (.panic c) a w) (hg : Gives P ops C oi v) (hdn : ∀ a w, C (a.put oi.dst v) w → C a w) (hup : ∀ a w, C a w → C (a.put oi.dst v) w) :
    ∀ (fuel : Nat) (listed : Array Bool) (a : Act) (w : World),
      (∀ j oj, ops[j]? = some oj → j ≠ i → listed.getD j true = false → (∀ e ∈ oj.after, Region.binds md e = true → e.on ≠ i) → oi.apart ops oj = true) →
      i ∈ Region.ready md ops listed → C a w →
      wpAnyD P md ops Q C late fuel (listed.setIfInBounds i true) (a.put oi.dst v) w → wpAnyD P md ops Q C late (fuel + 1) listed a w
  | fuel, listed, a, w, hfree, hr, hc, H => by
    refine ⟨fun h => (by rw [h] at hr; cases hr), fun j hj => ?_⟩
    by_cases hji : j = i
    · subst hji
      exact hg.wpOp hi hc ⟨.inr (hup a w hc), H⟩
    · have hm := ready_mono hj hji
      cases fuel with
      | zero =>
        rw [H.1] at hm
        cases hm
      | succ fuel =>
        obtain ⟨hjun, oj, hoj, hall⟩ := mem_ready.1 hj
        have hnot : ∀ e ∈ oj.after, Region.binds md e = true → e.on ≠ i := fun e he hb heq => by
          have h1 := hall e he hb
          have h0 := (mem_ready.1 hr).1
          rw [heq] at h1
          rcases Nat.lt_or_ge i listed.size with h' | h'
          · simp [h'] at h0 h1; rw [h0] at h1; cases h1
          · simp [Array.getElem?_eq_none h'] at h1
        have hnl : ¬ late.contains j = true := fun hc => by
          have h1 := (List.all_eq_true.1 hl) j (by simpa using hc)
          rw [hoj] at h1
          simp only [Array.any_eq_true, Bool.and_eq_true, beq_iff_eq] at h1
          obtain ⟨k, hk, hb, he⟩ := h1
          exact hnot _ (Array.getElem_mem hk) hb he
        have h2 := wpOp_put (oi := standIn oi v) (v := v) hoj (standIn_apart (hfree j oj hoj hji hjun hnot)) (fun cs b h => by cases h) (fun cs b => Region.noSelect_spec hs j oj cs b hoj) hQ (standIn_yields oi v a) (H.2 j hm)
        have hfree' : ∀ k ok, ops[k]? = some ok → k ≠ i → (listed.setIfInBounds j true).getD k true = false →
            (∀ e ∈ ok.after, Region.binds md e = true → e.on ≠ i) → oi.apart ops ok = true := fun k ok hk hki hun hno => by
          refine hfree k ok hk hki ?_ hno
          by_cases hjk : j = k
          · subst hjk; exact hjun
          · rw [getD_set_ne true hjk] at hun; exact hun
        refine wpOp_mono (fun a' w' h3 => ?_) h2
        have hc' := hdn a' w' (h3.2.1.resolve_left hnl)
        refine ⟨.inr hc', wpAnyD_first hi hs hl hQ hg hdn hup fuel (listed.setIfInBounds j true) a' w' hfree' (ready_mono hr (Ne.symm hji)) hc' ?_⟩
        rw [Array.setIfInBounds_comm _ _ hji]
        exact h3.2.2

/-- A load is taken first. -/
theorem wpAnyD_take {i : Nat} {oi : Oper} {v : Value} {fuel : Nat} {listed : Array Bool} {a : Act} {w : World} (hi : ops[i]? = some oi) (hs : Region.noSelect ops = true) (hl : waits md ops late i = true)
    (hf : Region.free md ops listed i = true) (hr : (Region.ready md ops listed).contains i = true)
    (hQ : ∀ c a w, Q (.panic c) (a.put oi.dst v) w → Q (.panic c) a w) (hg : Gives P ops C oi v) (hdn : ∀ a w, C (a.put oi.dst v) w → C a w) (hup : ∀ a w, C a w → C (a.put oi.dst v) w)
    (hc : C a w) (h : wpAnyD P md ops Q C late fuel (listed.setIfInBounds i true) (a.put oi.dst v) w) : wpAnyD P md ops Q C late (fuel + 1) listed a w :=
  wpAnyD_first hi hs hl hQ hg hdn hup fuel listed a w (Region.free_spec hi hf) (by simpa using hr) hc h

/-- One operation alone may come up. -/
theorem wpAnyD_one {i : Nat} {o : Oper} {fuel : Nat} {listed : Array Bool} {a : Act} {w : World} (hr : Region.ready md ops listed = [i]) (ho : ops[i]? = some o)
    (h : ∀ K' : Act → World → Prop, (∀ a w, ((late.contains i = true ∨ C a w) ∧ wpAnyD P md ops Q C late fuel (listed.setIfInBounds i true) a w) → K' a w) → if Region.wanted o (yielded ops a.tmps) = true then Oper.wp P o a w K' Q else K' (a.put o.dst undef) w) :
    wpAnyD P md ops Q C late (fuel + 1) listed a w := by
  refine ⟨fun h0 => (by rw [hr] at h0; cases h0), fun j hj => ?_⟩
  rw [hr] at hj
  obtain rfl : j = i := by simpa using hj
  exact wpOp_step ho h

theorem wpAnyD_done {listed : Array Bool} {a : Act} {w : World} (hr : Region.ready md ops listed = []) (h : Q .normal a w) : ∀ fuel, wpAnyD P md ops Q C late fuel listed a w
  | 0 => ⟨hr, h⟩
  | _ + 1 => ⟨fun _ => h, by rw [hr]; simp⟩
end
end Go.Proofs.YtdkaacjeogifdaaGreat.Dk

/-
  Write; Writes, Pending.
-/
namespace Go.Proofs.YtdkaacjeogifdaaGreat.Dk
open Go.RowKit

theorem info79 : (Tryz.prog.info? 89).map (fun i => (i.zero, i.size, i.bytes)) = some (some (.agg #[.int .i64 0, .slice none 0 0]), 2, 32) := by kernel_rfl

/-- An append leaves the row where it was, or lays it anew. -/
theorem append_where {P : Program} {w : World} {t ty e : TypeId} {i : TypeInfo} {z : Value} {size bytes : Nat} (ht : P.underlying t = some (.slice e)) (hi : P.info? e = some i) (hz : i.zero = some z) (hsize : i.size = size) (hby : i.bytes = bytes) (hzs : z.cells.size = size) (hsz : 0 < size)
    {v : Value} {n : Nat} {xs : List Value} (hown : w.ownsRow 0 e size v n xs) {ad : Addr} {m c : Nat} {news : List Value} (hl : news.length = m * size) (hnews : ∀ j u, news[j]? = some u → w.cell? (ad.add j) = some u) (h1 : ∀ u ∈ news, u.oneCell' = true)
    (h63 : n + m ≤ maxLen) (hbytes : (n + m) * bytes ≤ 140737488355328) :
    ∃ v' w', (Builtin.append_ #[t, t] ty #[v, .slice (some ad) m c]).run P w = .ok v' w' ∧ w'.ownsRow 0 e size v' (n + m) (xs ++ news) ∧ w.grownBy w' v.ownBlock ∧ (∀ k, v'.ownBlock = some k → v.ownBlock = some k ∨ w.heap.size ≤ k) := by
  obtain ⟨v', w', hr, h2, h3, _⟩ := run_append_own (P := P) w 0 t ty e i z size bytes ht hi hz hsize hby hzs hsz v n xs hown ad m c news hl hnews h1 h63 hbytes (Nat.zero_le _)
  refine ⟨v', w', hr, h2, h3, fun k hk => ?_⟩
  rcases hown.2 with ⟨rfl, rfl⟩ | ⟨g, cap, cur, rfl, hbg, hg, hnc, hcm, hcs, htake⟩
  · have hx : xs = [] := List.eq_nil_of_length_eq_zero (by simpa using hown.1)
    subst hx
    obtain ⟨v2, w2, hr2, o2, _⟩ := run_append_own (P := P) w w.heap.size t ty e i z size bytes ht hi hz hsize hby hzs hsz (.slice none 0 0) 0 [] (World.ownsRow_nil _ _ _ _) ad m c news hl hnews h1 h63 hbytes (Nat.le_refl _)
    rw [hr] at hr2
    simp only [Result.ok.injEq] at hr2
    obtain ⟨rfl, rfl⟩ := hr2
    exact .inr (o2.lt k hk).1
  · by_cases hroom : n + m ≤ cap
    · have hr2 := run_append_room (P := P) w t ty e i ht hi g n cap cur hg ad m c news (by rw [hsize]; exact hl) hnews h1 hroom (by rw [hsize, hl, hcs, ← Nat.add_mul]; exact Nat.mul_le_mul_right _ hroom)
      rw [hr] at hr2
      simp only [Result.ok.injEq] at hr2
      obtain ⟨rfl, _⟩ := hr2
      exact .inl hk
    · have hr2 := run_append_grow (P := P) w t ty e i z ht hi hz ⟨g, 0, none⟩ n cap xs (by rw [hsize]; exact hown.1) (hown.cells (g := g) rfl) ad m c news (by rw [hsize]; exact hl) hnews (by omega) (by simp only [maxLen] at h63; omega) (growslice_fits (by omega) (by rw [hby]; exact hbytes))
      rw [hr] at hr2
      simp only [Result.ok.injEq] at hr2
      obtain ⟨rfl, _⟩ := hr2
      simp [Value.ownBlock] at hk
      exact .inr (by omega)

/-- .. as one step of a region that draws its order. -/
theorem step_append_where {P : Program} {ops : Array Oper} {o : Oper} {a : Act} {w : World} {K : Act → World → Prop} {Q : Exit → Act → World → Prop} {E : Prop}
    (hg : o.guard = none) (s x : Operand) (t : TypeId) (hop : o.op = Op.call { callee := Callee.builtin Builtin.append, args := #[s, x], argTypes := #[t, t] })
    (e : TypeId) (i : TypeInfo) (z : Value) (size bytes : Nat) (h1 : P.underlying t = some (.slice e)) (h2 : P.info? e = some i) (h3 : i.zero = some z) (h4 : i.size = size) (h5 : i.bytes = bytes) (h6 : z.cells.size = size) (h7 : 0 < size)
    (v : Value) (n : Nat) (olds : List Value) (hs : a.eval s = v) (hown : w.ownsRow 0 e size v n olds)
    (ad : Addr) (m c : Nat) (news : List Value) (hx : a.eval x = .slice (some ad) m c) (hn : news.length = m * size) (hc : ∀ j u, news[j]? = some u → w.cell? (ad.add j) = some u) (h1c : ∀ u ∈ news, u.oneCell' = true)
    (b1 : n + m ≤ maxLen) (b2 : (n + m) * bytes ≤ 140737488355328)
    (hK : ∀ v' w', w'.ownsRow 0 e size v' (n + m) (olds ++ news) → w.grownBy w' v.ownBlock → (∀ k, v'.ownBlock = some k → v.ownBlock = some k ∨ w.heap.size ≤ k) → K (a.put o.dst v') w') :
    if Region.wanted o (yielded ops a.tmps) = true then Oper.wp P o a w K Q else E := by
  have hw : Region.wanted o (yielded ops a.tmps) = true := by simp [Region.wanted, hg]
  rw [if_pos hw]
  obtain ⟨v', w', hrun, r1, r2, r3⟩ := append_where (P := P) (ty := o.type) (c := c) h1 h2 h3 h4 h5 h6 h7 hown hn hc h1c b1 b2
  unfold Oper.wp
  simp [execOp, hop, resolve, invoke, builtin, hs, hx, hrun, Result.andThen]
  exact hK v' w' r1 r2 r3

/-- A write more stands in the row. -/
theorem Lies.added {w w3 w4 : World} {g : Nat} {D : DS} {F : Nat → Prop} {gd cd : Nat} {vu v' : Value} {ps : List (Nat × Nat × Nat)} (h : Lies w g D F gd cd vu ps) (hb : Below w.heap.size w w3) (bn gk ck : Nat) (b : List UInt8) (hrow : RowB w3 gk ck b) (hgk : w.heap.size ≤ gk) (hbn : bn < D.nb) (hbl : b.length = 4096)
    (ho : w4.ownsRow 0 89 2 v' (D.uf.length + 1) (wcs (ps ++ [(bn, gk, ck)]))) (hg : w3.grownBy w4 vu.ownBlock) (hv : ∀ k, v'.ownBlock = some k → vu.ownBlock = some k ∨ w.heap.size ≤ k) :
    ∃ F' : Nat → Prop, Lies (w4.setCell ⟨g, 2, none⟩ v') g { D with uf := D.uf ++ [(bn, b)] } F' gd cd v' (ps ++ [(bn, gk, ck)]) ∧ (∀ i, F' i → F i ∨ w.heap.size ≤ i) ∧ Upd F w (w4.setCell ⟨g, 2, none⟩ v') ∧ Box w4 g (diskC g (.slice (some ⟨gd, 0, none⟩) (D.nb * 4096) cd) vu D) 81 := by
  have h3 := h.below hb
  have gr := grown_store w4 g 2 v'
  have nrow : ∀ {q : Nat} {cs : Array Value} {t : TypeId}, Box w3 q cs t → t ≠ 89 → some q ≠ vu.ownBlock := by
    intro q cs t hq ht e
    rcases h3.row.2 with ⟨rfl, _⟩ | ⟨gv, cu, cur, rfl, _, hgv, _⟩
    · simp [Value.ownBlock] at e
    · simp [Value.ownBlock] at e
      subst e
      exact Box.ne (w := w3) hq hgv ht rfl
  have hbox4 : Box w4 g _ 81 := (hg.block g h3.box.lt (nrow h3.box (by decide))).trans h3.box
  have hrowB : ∀ {q c : Nat} {ys : List UInt8}, RowB w3 q c ys → RowB (w4.setCell ⟨g, 2, none⟩ v') q c ys := by
    intro q c ys hq
    have hq0 := hq
    obtain ⟨cur, hb1, _⟩ := hq
    have h4 := hq0.same (hg.block q hb1.lt (nrow hb1 (by decide)))
    obtain ⟨cur4, hb4, _⟩ := h4
    exact (hq0.same (hg.block q hb1.lt (nrow hb1 (by decide)))).same (gr.block q hb4.lt (by simpa using hb4.ne hbox4 (by decide)))
  have hkg : gk ≠ gd := by have := h.dur.lt; omega
  have hok : DS.Ok { D with uf := D.uf ++ [(bn, b)] } := ⟨h.ok.len, h.ok.lo, h.ok.hi, fun p hp => by
    rcases List.mem_append.1 hp with hp | hp
    · exact h.ok.each p hp
    · simp at hp; subst hp; exact ⟨hbn, hbl⟩, h.ok.arm, h.ok.fail⟩
  refine ⟨fun i => F i ∨ i = gk ∨ v'.ownBlock = some i, ⟨hbox4.store 2 v', hrowB h3.dur, ?_, ?_, ?_, .inl h.fg, .inl h.fd, fun k hk => .inr (.inr hk), ?_, hok⟩, ?_, ?_⟩
  · have ho' := ho.kept gr (by
      rcases ho.2 with ⟨rfl, _⟩ | ⟨gv, cu, cur, rfl, _, hgv, _⟩
      · exact .inl rfl
      · exact .inr (by simp only [Value.ownBlock, ne_eq, Option.some.injEq]; exact Box.ne (w := w4) (t := 89) hgv hbox4 (by decide)))
    show World.ownsRow _ _ _ _ _ (D.uf ++ [(bn, b)]).length _
    rw [List.length_append]
    exact ho'
  · show (ps ++ [(bn, gk, ck)]).length = (D.uf ++ [(bn, b)]).length
    simp [h.len]
  · intro k h1 h2
    have hl := h.len
    by_cases hk : k < ps.length
    · have hk2 : k < D.uf.length := by omega
      obtain ⟨a1, a2, a3, a4⟩ := h3.each k hk hk2
      have e1 : (ps ++ [(bn, gk, ck)])[k] = ps[k] := List.getElem_append_left hk
      have e2 : (D.uf ++ [(bn, b)])[k]'(by simp; omega) = D.uf[k] := List.getElem_append_left hk2
      show (ps ++ [(bn, gk, ck)])[k].1 = ((D.uf ++ [(bn, b)])[k]'(by simp; omega)).1 ∧ RowB _ (ps ++ [(bn, gk, ck)])[k].2.1 (ps ++ [(bn, gk, ck)])[k].2.2 ((D.uf ++ [(bn, b)])[k]'(by simp; omega)).2 ∧ _
      rw [e1, e2]
      exact ⟨a1, hrowB a2, a3, .inl a4⟩
    · have hke : k = ps.length := by simp at h1; omega
      subst hke
      have e1 : (ps ++ [(bn, gk, ck)])[ps.length] = (bn, gk, ck) := by simp
      have e2 : (D.uf ++ [(bn, b)])[ps.length]'(by simp; omega) = (bn, b) := by simp [hl]
      show (ps ++ [(bn, gk, ck)])[ps.length].1 = ((D.uf ++ [(bn, b)])[ps.length]'(by simp; omega)).1 ∧ RowB _ (ps ++ [(bn, gk, ck)])[ps.length].2.1 (ps ++ [(bn, gk, ck)])[ps.length].2.2 ((D.uf ++ [(bn, b)])[ps.length]'(by simp; omega)).2 ∧ _
      rw [e1, e2]
      exact ⟨rfl, hrowB hrow, hkg, .inr (.inl rfl)⟩
  · intro i hi
    have z1 := hb.size
    have z2 := hg.size
    have z3 := gr.size
    rcases hi with hi | rfl | hi
    · have := h.flt i hi; omega
    · have := hrow.lt; omega
    · have := (ho.lt i hi).2; omega
  · intro i hi
    rcases hi with hi | rfl | hi
    · exact .inl hi
    · exact .inr hgk
    · rcases hv i hi with h1 | h1
      · exact .inl (h.fu i h1)
      · exact .inr h1
  · have u1 : Upd F w w3 := Upd.of_below hb
    have u2 : Upd F w w4 := u1.grown hg (fun k hk => .inl (h.fu k hk))
    exact ⟨u2.setCell (.inl h.fg) _, hbox4⟩

def writeF (D : DS) : Prop := D.uf.length ≤ 1000000 ∧ D.n ≤ 1000000

set_option maxRecDepth 100000 in
set_option maxHeartbeats 2000000 in
theorem write_ok {g : Nat} {w : World} {D : DS} {F : Nat → Prop} {gd cd : Nat} {vu : Value} {ps : List (Nat × Nat × Nat)} (h : Lies w g D F gd cd vu ps) (bn cb : Nat) (ad : Addr) (b : List UInt8) (hb : b.length = 4096) (hbn : bn < D.nb) (hE : D.operE = 0) (hlim : writeF D) (hr : Rd w (some ad) b) (hF : ¬ F ad.block) :
    Calls Tryz.prog 62 #[.pointer (some ⟨g, 0, none⟩), .int .i64 (bn : Int), .slice (some ad) 4096 cb] w fun e w' => e = .returned (.int .i64 0) ∧ (∃ F', IsDisk w' g { D.oper with uf := D.uf ++ [(bn, b)], n := D.n + 1 } F' ∧ ∀ i, F' i → F i ∨ w.heap.size ≤ i) ∧ Upd F w w' := by
  have c := isMade_at h
  have cH := has_at h (bn : Int)
  have hhas : D.has (bn : Int) = true := by simp [DS.has]; omega
  rw [hhas] at cH
  have cO := operation_at h
  rw [hE] at cO
  obtain ⟨i0, hi, hz0, hz1, hz2⟩ := info_parts info79
  obtain ⟨l1, l2⟩ := hlim
  have Hb : Hid _ := hb
  have hfg := h.fg
  have Hnb : Hid _ := D.oper_nb
  have Huf : Hid _ := D.oper_uf
  have Hn : Hid _ := D.oper_n
  have hsp : ad = ⟨ad.block, ad.off, none⟩ := by
    obtain ⟨b', o', he, _⟩ := hr (by omega)
    obtain rfl := Option.some.inj he
    rfl
  obtain ⟨ab, ao, asp⟩ := ad
  simp only [Addr.mk.injEq, true_and] at hsp
  subst hsp
  clear hhas hE hb
  go_enter Tryz.func62, Tryz.ntmps62
  go_wp2_with fail
  refine c.mono ?_
  rintro e w' ⟨rfl, rfl⟩
  go_wp2_with fail
  refine cH.mono ?_
  rintro e w' ⟨rfl, rfl⟩
  go_wp2_with fail
  refine cO.mono ?_
  rintro e w1 ⟨rfl, h1, g1⟩
  have hr1 : Rd w1 (some ⟨ab, ao, none⟩) b := hr.upd ((Upd.refl F w).grown g1 (fun k e => by cases e; exact .inl hfg)) hF
  have U1 : Upd F w w1 := (Upd.refl F w).grown g1 (fun k e => by cases e; exact .inl hfg)
  clear c cH cO g1
  obtain ⟨_, _, c2, _⟩ := box_cells h1.box
  go_wp2_with fail
  refine wp_region_any (by kernel_rfl) ?_
  change wpAny _ _ _ _ _ _ _ (World.drew _)
  refine wpAny_take (i := 0) (v := ?_) rfl (by kernel_rfl) (by kernel_rfl) (by kernel_rfl) (fun _ _ _ h => h) (Or.inl ⟨by rfl, ?_⟩) ?_
  rotate_left
  · intro w
    go_simp
    with_reducible rfl
  refine wpAny_take (i := 1) (v := ?_) rfl (by kernel_rfl) (by kernel_rfl) (by kernel_rfl) (fun _ _ _ h => h) (Or.inl ⟨by rfl, ?_⟩) ?_
  rotate_left
  · intro w
    go_simp
    with_reducible rfl
  refine wpAny_take (i := 2) (v := ?_) rfl (by kernel_rfl) (by kernel_rfl) (by kernel_rfl) (fun _ _ _ h => h) (Or.inl ⟨by rfl, ?_⟩) ?_
  rotate_left
  · intro w
    go_simp
    with_reducible rfl
  refine wpAny_take (i := 3) (v := ?_) rfl (by kernel_rfl) (by kernel_rfl) (by kernel_rfl) (fun _ _ _ h => h) (Or.inl ⟨by rfl, ?_⟩) ?_
  rotate_left
  · intro w
    go_simp
    with_reducible rfl
  refine wpAny_take (i := 5) (v := ?_) rfl (by kernel_rfl) (by kernel_rfl) (by kernel_rfl) (fun _ _ _ h => h) (Or.inl ⟨by rfl, ?_⟩) ?_
  rotate_left
  · intro w
    go_simp
    with_reducible rfl
  refine wpAny_take (i := 6) (v := ?_) rfl (by kernel_rfl) (by kernel_rfl) (by kernel_rfl) (fun _ _ _ h => h) (Or.inl ⟨by rfl, ?_⟩) ?_
  rotate_left
  · intro w
    go_simp
    with_reducible rfl
  simp only [Act.put, List.setIfInBounds_toArray, List.set_cons_zero, List.set_cons_succ, List.getElem_toArray, List.getElem_cons_zero, List.getElem_cons_succ]
  have hvu : ∃ av cu, vu = .slice av D.uf.length cu := by
    have hrow := h.row
    rcases hrow.2 with ⟨h1, h2⟩ | ⟨gv, cu, cur, hv, _⟩
    · exact ⟨none, 0, by rw [h1, h2]⟩
    · exact ⟨some ⟨gv, 0, none⟩, cu, hv⟩
  obtain ⟨av, cu, rfl⟩ := hvu
  obtain ⟨n, hn⟩ : ∃ n, n = D.uf.length := ⟨_, rfl⟩
  rw [← hn] at h1 c2 l1
  have Hnn : Hid _ := hn
  clear hn
  refine wpAny_of_late (C := SlotsCells [(31, .pointer (some ⟨g, 2, none⟩))] [(⟨g, 2, none⟩, .slice av n cu)]) (late := [10, 11, 12, 13]) _ _ _ _ ?_
  have h2 : Lies w1.drew g D.oper F gd cd (.slice av n cu) ps := h1.below (Below.refl _ _).drew
  have c2d : w1.drew.cell? ⟨g, 2, none⟩ = some (.slice av n cu) := c2
  have hr2 : Rd w1.drew (some ⟨ab, ao, none⟩) b := hr1
  have U2 : Upd F w w1.drew := U1.drew
  have hgl : g < w1.drew.heap.size := h2.box.lt
  obtain ⟨W, hW⟩ : ∃ W, W = w1.drew := ⟨_, rfl⟩
  rw [← hW] at h2 c2d hr2 U2 hgl ⊢
  clear hW h1 c2 hr1 U1
  refine wpAnyD_take (i := 4) (v := .slice av n cu) rfl (by kernel_rfl) (by kernel_rfl) (by kernel_rfl) (by kernel_rfl) (fun _ _ _ h => h) ?_ (fun fr u h => (SlotsCells.put 32 _ (by rfl)).1 h) (fun fr u h => (SlotsCells.put 32 _ (by rfl)).2 h) ?_ ?_
  · intro fr u hh
    obtain ⟨e1, e2⟩ := hh.load (s := 31) (p := ⟨g, 2, none⟩) (v := .slice av n cu) (by simp) (by simp)
    exact ⟨rfl, by simp [execOp, e1, go_sem, e2]⟩
  · refine ⟨fun p hp => ?_, fun q hq => ?_⟩
    · simp at hp
      subst hp
      rfl
    · simp at hq
      subst hq
      exact c2d
  simp only [Act.put, List.setIfInBounds_toArray, List.set_cons_zero, List.set_cons_succ, List.getElem_toArray, List.getElem_cons_zero, List.getElem_cons_succ]
  refine wpAnyD_one (i := 7) (by kernel_rfl) rfl (fun K hK => ?_)
  go_simp
  refine (clone_at cb 4096 ⟨ab, ao, none⟩ b W Hb.out (by omega) (by omega) hr2).mono ?_
  rintro e w2 ⟨gk, ck, rfl, hgk, rk, b2⟩
  have c2e := (b2.cell (p := ⟨g, 2, none⟩) hgl).trans c2d
  refine hK _ _ ⟨?_, ?_⟩
  · refine .inr ⟨fun p hp => ?_, fun q hq => ?_⟩
    · simp at hp
      subst hp
      rfl
    · simp at hq
      subst hq
      exact c2e
  clear hK K
  refine wpAnyD_one (i := 8) (by kernel_rfl) rfl (fun K hK => ?_)
  go_simp
  refine hK _ _ ⟨?_, ?_⟩
  · refine .inr ⟨fun p hp => ?_, fun q hq => ?_⟩
    · simp at hp
      subst hp
      rfl
    · simp at hq
      subst hq
      exact c2e
  clear hK K
  have bA := (Below.refl w2.heap.size w2).alloc (Nat.le_refl _) (.cells #[.int .i64 (bn : Int), .slice (some ⟨gk, 0, none⟩) 4096 ck] 89)
  have x3 := Box.new w2 #[.int .i64 (bn : Int), .slice (some ⟨gk, 0, none⟩) 4096 ck] 89
  have rk3 := rk.same (bA.block gk rk.lt)
  have B3 := b2.trans (bA.mono b2.size)
  have c2f := (B3.cell (p := ⟨g, 2, none⟩) hgl).trans c2d
  refine wpAnyD_one (i := 9) (by kernel_rfl) rfl (fun K hK => ?_)
  go_simp
  refine hK _ _ ⟨?_, ?_⟩
  · refine .inr ⟨fun p hp => ?_, fun q hq => ?_⟩
    · simp at hp
      subst hp
      rfl
    · simp at hq
      subst hq
      exact c2f
  clear hK K
  obtain ⟨V, hV⟩ : ∃ V, V = w2.alloc (.cells #[.int .i64 (bn : Int), .slice (some ⟨gk, 0, none⟩) 4096 ck] 89) := ⟨_, rfl⟩
  obtain ⟨G, hG⟩ : ∃ G, G = w2.heap.size := ⟨_, rfl⟩
  rw [← hV] at x3 rk3 B3 c2f ⊢
  rw [← hG] at x3 ⊢
  clear hV hG bA c2e rk b2
  have h3 := h2.below B3
  have row3 : V.ownsRow 0 89 2 (.slice av n cu) n (wcs ps) := by
    have := h3.row
    rw [Huf.out, ← Hnn.out] at this
    exact this
  refine wpAnyD_one (i := 10) (by kernel_rfl) rfl (fun K hK => ?_)
  refine step_append_where rfl (.tmp 32) (.tmp 37) 79 rfl 89 i0 (.agg #[.int .i64 0, .slice none 0 0]) 2 32 Tryz.underlying79 hi hz0 hz1 hz2 rfl (by decide) (.slice av n cu) n (wcs ps) rfl row3 ⟨G, 0, none⟩ 1 1 [.int .i64 (bn : Int), .slice (some ⟨gk, 0, none⟩) 4096 ck] rfl rfl ?_ ?_ (by unfold maxLen; omega) (by omega) ?_
  · intro j u hj
    match j, hj with
    | 0, hj => simp at hj; subst hj; rw [Addr.add_lit]; exact x3.cell 0
    | 1, hj => simp at hj; subst hj; rw [Addr.add_lit]; exact x3.cell 1
  · intro u hu
    simp at hu
    rcases hu with rfl | rfl <;> rfl
  intro v4 w4 o4 g4 hw4
  have hVs : W.heap.size ≤ V.heap.size := B3.size
  obtain ⟨F', hl, hF', hu, hbx⟩ := h2.added B3 bn gk ck b rk3 hgk (by rw [Hnb.out]; exact hbn) Hb.out (by rw [wcs_snoc, Huf.out, ← Hnn.out]; exact o4) g4 (fun k hk => by rcases hw4 k hk with h | h; exact .inl h; exact .inr (by omega))
  have hv4 : ∃ av cu, v4 = .slice av (n + 1) cu := by
    rcases o4.2 with ⟨_, h2⟩ | ⟨gv, cu, cur, hv, _⟩
    · omega
    · exact ⟨some ⟨gv, 0, none⟩, cu, hv⟩
  obtain ⟨av4, cu4, rfl⟩ := hv4
  refine hK _ _ ⟨.inl rfl, ?_⟩
  clear hK K o4 g4 hw4 row3 h3 x3 rk3
  simp only [Act.put, List.setIfInBounds_toArray]
  refine wpAnyD_one (i := 11) (by kernel_rfl) rfl (fun K hK => ?_)
  go_simp
  refine hK _ _ ⟨.inl rfl, ?_⟩
  clear hK K
  refine wpAnyD_one (i := 12) (by kernel_rfl) rfl (fun K hK => ?_)
  go_simp
  refine hK _ _ ⟨.inl rfl, ?_⟩
  clear hK K
  have f2 := hbx.frozen 2
  obtain ⟨_, _, k2, _⟩ := box_cells hbx
  refine wpAnyD_one (i := 13) (by kernel_rfl) rfl (fun K hK => ?_)
  go_simp
  refine hK _ _ ⟨.inl rfl, ?_⟩
  clear hK K f2 k2
  refine wpAnyD_done (by kernel_rfl) ?_ _
  generalize w4.setCell ⟨g, 2, none⟩ (.slice av4 (n + 1) cu4) = X at hl hu ⊢
  obtain ⟨_, _, _, k3, _⟩ := box_cells hl.box
  have f3 := hl.box.frozen 3
  dsimp only at k3
  rw [Hn.out] at k3
  have b5 := hl.box.store 3 (.int .i64 ((D.n : Int) + 1))
  have g5 := grown_store X g 3 (.int .i64 ((D.n : Int) + 1))
  have hn1 : (((D.n + 1 : Nat)) : Int) = (D.n : Int) + 1 := by omega
  have hl5 := hl.turned (D' := { D.oper with uf := D.oper.uf ++ [(bn, b)], n := D.n + 1 }) g5 (by rw [← hn1] at b5; rw [← hn1]; exact b5) rfl rfl ⟨hl.ok.len, hl.ok.lo, hl.ok.hi, hl.ok.each, hl.ok.arm, hl.ok.fail⟩
  rw [Huf.out] at hl5
  have u5 : Upd F w _ := (U2.trans hu (fun i hi => .inl hi)).grown g5 (fun k e => by cases e; exact .inl hfg)
  have hWs : w.heap.size ≤ W.heap.size := U2.size
  clear b5 g5 hn1 hl hu hbx
  go_wp2
  go_ret
  exact ⟨rfl, ⟨F', ⟨_, _, _, _, hl5⟩, fun i hi => by rcases hF' i hi with h | h; exact .inl h; exact .inr (by omega)⟩, u5⟩
end Go.Proofs.YtdkaacjeogifdaaGreat.Dk

/-
  Write whatever it is given; Writes, Pending.
-/
namespace Go.Proofs.YtdkaacjeogifdaaGreat.Dk
open Go.RowKit

set_option maxRecDepth 100000 in
theorem write_not {g : Nat} {w : World} {D : DS} {F : Nat → Prop} {gd cd : Nat} {vu : Value} {ps : List (Nat × Nat × Nat)} (h : Lies w g D F gd cd vu ps) (n : Int) (a : Option Addr) (len cb : Nat) (hn : D.has n = false) :
    Calls Tryz.prog 62 #[.pointer (some ⟨g, 0, none⟩), .int .i64 n, .slice a len cb] w fun e w' => e = .returned (.int .i64 70) ∧ w = w' := by
  have c := isMade_at h
  have cH := has_at h n
  rw [hn] at cH
  go_enter Tryz.func62, Tryz.ntmps62
  go_wp2_with fail
  refine c.mono ?_
  rintro e w' ⟨rfl, rfl⟩
  go_wp2_with fail
  refine cH.mono ?_
  rintro e w' ⟨rfl, rfl⟩
  go_wp2
  go_ret
  exact ⟨rfl, rfl⟩
set_option maxRecDepth 100000 in
theorem write_len {g : Nat} {w : World} {D : DS} {F : Nat → Prop} {gd cd : Nat} {vu : Value} {ps : List (Nat × Nat × Nat)} (h : Lies w g D F gd cd vu ps) (n : Int) (a : Option Addr) (len cb : Nat) (hn : D.has n = true) (hl : len ≠ 4096) :
    Calls Tryz.prog 62 #[.pointer (some ⟨g, 0, none⟩), .int .i64 n, .slice a len cb] w fun e w' => e = .returned (.int .i64 2) ∧ w = w' := by
  have c := isMade_at h
  have cH := has_at h n
  rw [hn] at cH
  have hl' : ((len : Int) != 4096) = true := by simp; omega
  go_enter Tryz.func62, Tryz.ntmps62
  go_wp2_with fail
  refine c.mono ?_
  rintro e w' ⟨rfl, rfl⟩
  go_wp2_with fail
  refine cH.mono ?_
  rintro e w' ⟨rfl, rfl⟩
  go_wp2
  go_ret
  exact ⟨rfl, rfl⟩
set_option maxRecDepth 100000 in
theorem write_stop {g : Nat} {w : World} {D : DS} {F : Nat → Prop} {gd cd : Nat} {vu : Value} {ps : List (Nat × Nat × Nat)} (h : Lies w g D F gd cd vu ps) (n : Int) (a : Option Addr) (cb : Nat) (hn : D.has n = true) (hE : D.operE ≠ 0) :
    Calls Tryz.prog 62 #[.pointer (some ⟨g, 0, none⟩), .int .i64 n, .slice a 4096 cb] w fun e w' => e = .returned (.int .i64 (D.operE : Int)) ∧ Lies w' g D.oper F gd cd vu ps ∧ w.grownBy w' (some g) := by
  have c := isMade_at h
  have cH := has_at h n
  rw [hn] at cH
  have cO := operation_at h
  generalize D.operE = E at cO hE ⊢
  have hE' : ((E : Int) != 0) = true := by simp; omega
  go_enter Tryz.func62, Tryz.ntmps62
  go_wp2_with fail
  refine c.mono ?_
  rintro e w' ⟨rfl, rfl⟩
  go_wp2_with fail
  refine cH.mono ?_
  rintro e w' ⟨rfl, rfl⟩
  go_wp2_with fail
  refine cO.mono ?_
  rintro e w1 ⟨rfl, h1, g1⟩
  go_wp2
  go_ret
  exact ⟨rfl, h1, g1⟩

/-- Write -/
theorem write_at {g : Nat} {w : World} {D : DS} {F : Nat → Prop} (hd : IsDisk w g D F) (n : Int) (a : Option Addr) (len cb : Nat) (b : List UInt8) (hb : b.length = len) (hlim : writeF D) (hr : Rd w a b) (hF : ∀ ad, a = some ad → ¬ F ad.block) :
    Calls Tryz.prog 62 #[.pointer (some ⟨g, 0, none⟩), .int .i64 n, .slice a len cb] w fun e w' => e = .returned (.int .i64 (D.writeE n b : Int)) ∧ (∃ F', IsDisk w' g (D.write n b) F' ∧ ∀ i, F' i → F i ∨ w.heap.size ≤ i) ∧ Upd F w w' := by
  obtain ⟨gd, cd, vu, ps, h⟩ := hd
  cases hh : D.has n with
  | false =>
    have e1 : D.writeE n b = 70 := by simp [DS.writeE, hh]
    have e2 : D.write n b = D := by simp [DS.write, hh]
    rw [e1, e2]
    refine (write_not h n a len cb hh).mono ?_
    rintro e w' ⟨rfl, rfl⟩
    exact ⟨rfl, ⟨F, ⟨_, _, _, _, h⟩, fun i hi => .inl hi⟩, Upd.refl _ _⟩
  | true =>
    by_cases hl : len = 4096
    · subst hl
      by_cases hE : D.operE = 0
      · have hn : 0 ≤ n ∧ n < D.nb := by simpa [DS.has] using hh
        obtain ⟨bn, rfl⟩ := Int.eq_ofNat_of_zero_le hn.1
        have e1 : D.writeE bn b = 0 := by simp [DS.writeE, hh, hb, hE]
        have e2 : D.write bn b = { D.oper with uf := D.uf ++ [(bn, b)], n := D.n + 1 } := by simp [DS.write, hh, hb, hE]
        rw [e1, e2]
        obtain ⟨b', o', rfl, _⟩ := hr (by omega)
        exact write_ok h bn cb _ b hb (by omega) hE hlim hr (hF _ rfl)
      · have e1 : D.writeE n b = D.operE := by simp [DS.writeE, hh, hb]
        have e2 : D.write n b = D.oper := by simp [DS.write, hh, hb, hE]
        rw [e1, e2]
        refine (write_stop h n a cb hh hE).mono ?_
        rintro e w' ⟨rfl, h1, g1⟩
        exact ⟨rfl, ⟨F, ⟨_, _, _, _, h1⟩, fun i hi => .inl hi⟩, (Upd.refl F w).grown g1 (fun k e => by cases e; exact .inl h.fg)⟩
    · have e1 : D.writeE n b = 2 := by simp [DS.writeE, hh, hb, hl]
      have e2 : D.write n b = D := by simp [DS.write, hh, hb, hl]
      rw [e1, e2]
      refine (write_len h n a len cb hh hl).mono ?_
      rintro e w' ⟨rfl, rfl⟩
      exact ⟨rfl, ⟨F, ⟨_, _, _, _, h⟩, fun i hi => .inl hi⟩, Upd.refl _ _⟩

theorem writes_at {g : Nat} {w : World} {D : DS} {F : Nat → Prop} (hd : IsDisk w g D F) :
    Calls Tryz.prog 17 #[.pointer (some ⟨g, 0, none⟩)] w fun e w' => e = .returned (.int .i64 (D.n : Int)) ∧ w = w' := by
  obtain ⟨gd, cd, vu, ps, h⟩ := hd
  have c := isMade_at h
  obtain ⟨_, _, _, c3, _⟩ := box_cells h.box
  go_enter Tryz.func17, Tryz.ntmps17
  go_wp2_with fail
  refine c.mono ?_
  rintro e w' ⟨rfl, rfl⟩
  go_wp2
  go_ret
  exact ⟨rfl, rfl⟩
theorem size_of {g : Nat} {w : World} {D : DS} {F : Nat → Prop} (hd : IsDisk w g D F) :
    Calls Tryz.prog 38 #[.pointer (some ⟨g, 0, none⟩)] w fun e w' => e = .returned (.int .i64 (D.nb : Int)) ∧ w = w' := by
  obtain ⟨gd, cd, vu, ps, h⟩ := hd
  exact size_at h

def ic (k : Nat) : Value := .int .i64 (k : Int)
theorem info3 : (Tryz.prog.info? 3).map (fun i => (i.zero, i.size, i.bytes)) = some (some (.int .i64 0), 1, 8) := by kernel_rfl

/-- the blocks of the first k writes -/
def pend (uf : List (Nat × List UInt8)) (k : Nat) : List Value := ((uf.take k).map (·.1)).map ic
theorem pend_succ (uf : List (Nat × List UInt8)) (k : Nat) (h : k < uf.length) : pend uf (k + 1) = pend uf k ++ [.int .i64 (uf[k].1 : Int)] := by
  unfold pend
  rw [List.take_succ_eq_append_getElem h, List.map_append, List.map_append]
  rfl
theorem pend_all (uf : List (Nat × List UInt8)) : pend uf uf.length = (uf.map (·.1)).map ic := by unfold pend; rw [List.take_length]

set_option maxRecDepth 100000 in
theorem pending_at {g : Nat} {w : World} {D : DS} {F : Nat → Prop} (hd : IsDisk w g D F) (hlim : D.uf.length ≤ 1000000) :
    Calls Tryz.prog 18 #[.pointer (some ⟨g, 0, none⟩)] w fun e w' => ∃ v, e = .returned v ∧ w'.ownsRow w.heap.size 3 1 v D.uf.length (pend D.uf D.uf.length) ∧ Below w.heap.size w w' := by
  obtain ⟨gd, cd, vu, ps, h⟩ := hd
  have c := isMade_at h
  obtain ⟨_, _, c2, _⟩ := box_cells h.box
  obtain ⟨i0, hi, hz0, hz1, hz2⟩ := info_parts info3
  by_cases h0 : 0 < D.uf.length
  · obtain ⟨gv, cu, cur, rfl, hcu, hmu, hbv, hcells⟩ := h.writes h0
    have Hcells : Hid _ := hcells
    have hlt := hbv.lt
    have Hlen : Hid _ := h.len
    obtain ⟨n, hn⟩ : ∃ n, n = D.uf.length := ⟨_, rfl⟩
    rw [← hn] at hcu c2 hlim ⊢
    have Hn : Hid _ := hn
    clear hcells h hn h0
    go_enter Tryz.func18, Tryz.ntmps18
    go_wp2_with fail
    refine c.mono ?_
    rintro e w' ⟨rfl, rfl⟩
    clear c
    go_wp2_with fail
    go_loopw [3, 14] (fun v i wr => ∃ k : Nat, k ≤ n ∧ i = .int .i64 k ∧ wr.ownsRow w.heap.size 3 1 v k (pend D.uf k) ∧ Below w.heap.size w wr) (fun _ i _ => n - (intOf i).toNat)
    case atStart => exact ⟨0, Nat.zero_le _, rfl, World.ownsRow_nil _ _ _ _, Below.refl _ _⟩
    case round =>
      obtain ⟨k, hk, rfl, hown, hbel⟩ := hrel
      by_cases hlt' : k < n
      · have hk' : k < D.uf.length := by rw [← Hn.out]; exact hlt'
        obtain ⟨a0, a1⟩ := Hcells.out k hk' (by rw [Hlen.out]; exact hk')
        have hsucc : Hid _ := pend_succ D.uf k hk'
        generalize (ps[k]'(by rw [Hlen.out]; exact hk')).2.1 = gk at a1
        generalize (ps[k]'(by rw [Hlen.out]; exact hk')).2.2 = ck at a1
        generalize (D.uf[k]'hk').1 = bn at a0 hsucc
        have a0' := (hbel.cell (p := ⟨gv, 0 + k * 2, none⟩) hlt).trans a0
        have a1' := (hbel.cell (p := ⟨gv, 0 + k * 2 + 1, none⟩) hlt).trans a1
        simp only [Nat.zero_add] at a0' a1'
        have z3 := hbel.size
        have own1 := (hown.alloc (.cells #[.int .i64 (bn : Int), .slice (some ⟨gk, 0, none⟩) 4096 ck] 89)).alloc (.cells #[.int .i64 (bn : Int)] 3)
        clear a0 a1
        go_wp2_with (at_builtin; refine wpList_append_own _ rfl _ _ 49 rfl w.heap.size 3 i0 (.int .i64 0) 1 8 Tryz.underlying49 hi hz0 hz1 hz2 rfl (by decide) _ k _ rfl own1 ⟨wr.heap.size + 1, 0, none⟩ 1 1 [.int .i64 (bn : Int)] rfl rfl ?c1 ?c2 ?c3 ?c4 ?c5 ?_)
        case c1 =>
          intro i u hi'
          match i, hi' with
          | 0, hi' => simp at hi'; subst hi'; simp [Addr.add]
        case c2 => intro u hu; simp at hu; subst hu; rfl
        case c3 => unfold maxLen; omega
        case c4 => omega
        case c5 => simp; omega
        · intro v' w4 hown4 hgrow _
          have B4 : Below w.heap.size w w4 := ((hbel.alloc z3 _).alloc (by simp; omega) _).grown hgrow (by simp; omega) (fun k hk => (hown.lt k hk).1)
          rw [← hsucc.out] at hown4
          clear hown hbel hgrow own1
          go_wp2
          go_roundw
          case rel => exact ⟨k + 1, by omega, by go_num, hown4, B4⟩
          case measure => simp [intOf]; omega
      · obtain rfl : k = n := by omega
        go_wp2
        go_ret
        exact ⟨_, rfl, hown, hbel⟩
  · have hn : D.uf.length = 0 := by omega
    rw [hn]
    have hp0 : pend D.uf 0 = [] := rfl
    rw [hp0]
    obtain ⟨av, cu, rfl⟩ : ∃ av cu, vu = .slice av 0 cu := by
      rcases h.row.2 with ⟨h1, _⟩ | ⟨gv, cu, cur, hv, _⟩
      · exact ⟨none, 0, h1⟩
      · exact ⟨some ⟨gv, 0, none⟩, cu, by rw [hv, hn]⟩
    clear h hn h0 hlim hp0
    go_enter Tryz.func18, Tryz.ntmps18
    go_wp2_with fail
    refine c.mono ?_
    rintro e w' ⟨rfl, rfl⟩
    go_wp2_with fail
    refine wp_loop_rounds 1 ?_
    rw [rounds_succ]
    go_wp2
    go_ret
    exact ⟨_, rfl, World.ownsRow_nil _ _ _ _, Below.refl _ _⟩
end Go.Proofs.YtdkaacjeogifdaaGreat.Dk

/-
  lay: images are written in order, then the disk is flushed.
-/
namespace Go.Proofs.YtdkaacjeogifdaaGreat.H
open Go.RowKit
open Go.Proofs.YtdkaacjeogifdaaGreat.Dk (Box Upd IsDisk DS Rd)

/-- images with their bytes -/
abbrev ImD := (Int × Option Addr × Nat × Nat) × List UInt8
def pl (L : List ImD) : List (Int × List UInt8) := L.map fun p => (p.1.1, p.2)
structure ImsD (w : World) (a : Option Addr) (L : List ImD) (F : Nat → Prop) : Prop where
  cells : CellsI w a (L.map (·.1))
  data : ∀ p ∈ L, Rd w p.1.2.1 p.2 ∧ p.2.length = p.1.2.2.1 ∧ ∀ ad, p.1.2.1 = some ad → ad.block < w.heap.size ∧ ¬ F ad.block
  out : ∀ ad, a = some ad → ¬ F ad.block
theorem rd_upd {F : Nat → Prop} {w w' : World} {a : Option Addr} {xs : List UInt8} (h : Rd w a xs) (hu : Upd F w w') (hg : ∀ ad, a = some ad → ¬ F ad.block) : Rd w' a xs := fun hp => by
  obtain ⟨b, o, rfl, hc⟩ := h hp
  exact (Dk.Rd.upd (fun _ => ⟨b, o, rfl, hc⟩) hu (hg _ rfl)) hp

set_option maxRecDepth 100000 in
set_option maxHeartbeats 4000000 in
theorem lay_at {g : Nat} {w : World} {D : DS} {F : Nat → Prop} (hd : IsDisk w g D F) (a : Option Addr) (n c : Nat) (L : List ImD) (hl : L.length = n) (hn : n ≤ 1000) (hI : ImsD w a L F) (hlim : D.uf.length ≤ 900000 ∧ D.n ≤ 900000) :
    Calls Tryz.prog 41 #[.pointer (some ⟨g, 0, none⟩), .slice a n c] w fun e w' => e = .returned (.int .i64 ((layD (pl L) D).2 : Int)) ∧ (∃ F', IsDisk w' g (layD (pl L) D).1 F' ∧ ∀ i, F' i → F i ∨ w.heap.size ≤ i) ∧ Upd F w w' := by
  have HI : Hid (ImsD w a L F) := hI
  have HL : Hid (L.length = n) := hl
  have HLim : Hid (D.uf.length ≤ 900000 ∧ D.n ≤ 900000) := hlim
  have HD : Hid (IsDisk w g D F) := hd
  clear hI hl hlim hd
  go_enter Tryz.func41, Tryz.ntmps41
  go_wp2_with fail
  go_loopw [10] (fun i u => ∃ (k : Nat) (E : DS) (F' : Nat → Prop), k ≤ n ∧ i = .int .i64 (k : Int) ∧ IsDisk u g E F' ∧ (∀ i, F' i → F i ∨ w.heap.size ≤ i) ∧ Upd F w u ∧ layD (pl L) D = layD ((pl L).drop k) E ∧ E.uf.length ≤ D.uf.length + k ∧ E.n ≤ D.n + k) (fun i _ => n - (intOf i).toNat)
  case atStart => exact ⟨0, D, F, Nat.zero_le _, rfl, HD.out, fun i h => .inl h, Upd.refl _ _, by simp, by omega, by omega⟩
  case round =>
    obtain ⟨k, E, F', hk, rfl, hd, hF', U, hlay, hu, hn2⟩ := hrel
    have HDk : Hid (IsDisk wr g E F') := hd
    have HF : Hid (∀ i, F' i → F i ∨ w.heap.size ≤ i) := hF'
    have HLay : Hid (layD (pl L) D = layD ((pl L).drop k) E) := hlay
    have HB : Hid (E.uf.length ≤ D.uf.length + k ∧ E.n ≤ D.n + k) := ⟨hu, hn2⟩
    clear hd hF' hlay hu hn2
    by_cases hlt : k < n
    · have hki : (k : Int) < (n : Int) := by omega
      have hkl : k < L.length := by rw [HL.out]; exact hlt
      obtain ⟨b, o, rfl, hcc⟩ := HI.out.cells (by rw [List.length_map]; omega)
      obtain ⟨c0, c1⟩ := hcc k (by rw [List.length_map]; exact hkl)
      obtain ⟨hr, hlen, hno⟩ := HI.out.data L[k] (List.getElem_mem hkl)
      have hdrop : Hid ((pl L).drop k = (L[k].1.1, L[k].2) :: (pl L).drop (k + 1)) := by
        show _ = _
        have h1 : k < (pl L).length := by simp [pl]; exact hkl
        rw [List.drop_eq_getElem_cons h1]
        simp [pl]
      simp only [List.getElem_map] at c0 c1
      generalize (L[k]'hkl) = q at c0 c1 hr hlen hno hdrop
      obtain ⟨⟨qb, qa, qn, qc⟩, xs⟩ := q
      dsimp only at c0 c1 hr hlen hno hdrop
      have nb := HI.out.out _ rfl
      have l0 := block_lt_of_cell c0
      have x0 : wr.cell? ⟨b, o + k * 2, none⟩ = some (.int .i64 qb) := (World.cell?_of_block (a := ⟨b, o + k * 2, none⟩) (U.block b l0 nb)).trans c0
      have x1 : wr.cell? ⟨b, o + k * 2 + 1, none⟩ = some (.slice qa qn qc) := (World.cell?_of_block (a := ⟨b, o + k * 2 + 1, none⟩) (U.block b l0 nb)).trans c1
      have bx := Box.new wr #[.int .i64 qb, .slice qa qn qc] 57
      have bA := (Below.refl wr.heap.size wr).alloc (Nat.le_refl _) (.cells #[.int .i64 qb, .slice qa qn qc] 57)
      have U1 := U.alloc (.cells #[.int .i64 qb, .slice qa qn qc] 57)
      have y0 := bx.cell 0
      have y1 := bx.cell 1
      simp only [List.getElem?_toArray, List.getElem?_cons_zero, List.getElem?_cons_succ] at y0 y1
      have hnoF' : ∀ ad, qa = some ad → ¬ F' ad.block := fun ad e hf => by
        rcases HF.out _ hf with h1 | h1
        · exact (hno ad e).2 h1
        · exact absurd (hno ad e).1 (Nat.not_lt.2 h1)
      have cW := Dk.write_at (HDk.out.below bA) qb qa qn qc xs hlen ⟨by have := HB.out.1; have := HLim.out.1; omega, by have := HB.out.2; have := HLim.out.2; omega⟩ ((rd_upd hr U (fun ad e => (hno ad e).2)).below bA (Nat.le_refl _)) hnoF'
      have hle := write_le E qb xs
      clear hcc c0 c1 l0 bx hr nb
      have HW : Hid ((E.write qb xs).nb = E.nb ∧ (E.write qb xs).uf.length ≤ E.uf.length + 1 ∧ (E.write qb xs).n ≤ E.n + 1) := hle
      have hE2 : Hid (layD (pl L) D = if E.writeE qb xs = 0 then layD ((pl L).drop (k + 1)) (E.write qb xs) else (E.write qb xs, E.writeE qb xs)) := by
        show _ = _
        rw [HLay.out, hdrop.out]
        rfl
      clear hle HLay hdrop
      by_cases he : E.writeE qb xs = 0
      · rw [he] at cW
        have hE3 : Hid (layD (pl L) D = layD ((pl L).drop (k + 1)) (E.write qb xs)) := hE2.out.trans (if_pos he)
        clear hE2 he
        go_wp2_with fail
        refine Calls.mono cW ?_
        rintro r u ⟨rfl, ⟨F2, hd2, hF2⟩, U2⟩
        have U3 : Upd F w u := U1.trans U2 (fun i h => HF.out i h)
        clear cW y0 y1 x0 x1
        go_wp2_with fail
        go_roundw
        case rel => exact ⟨k + 1, _, F2, by omega, by push_cast; rfl, hd2, fun i hi => by
            rcases hF2 i hi with h1 | h1
            · exact HF.out i h1
            · exact .inr (Nat.le_trans U1.size h1), U3, hE3.out, by have := HW.out.2.1; have := HB.out.1; omega, by have := HW.out.2.2; have := HB.out.2; omega⟩
        case measure => simp [intOf]; omega
      · have hE3 : Hid (layD (pl L) D = (E.write qb xs, E.writeE qb xs)) := hE2.out.trans (if_neg he)
        have hne : ((E.writeE qb xs : Int) != 0) = true := by simp; omega
        generalize E.writeE qb xs = ee at cW hE3 hne
        clear hE2 he
        go_wp2_with fail
        refine Calls.mono cW ?_
        rintro r u ⟨rfl, ⟨F2, hd2, hF2⟩, U2⟩
        have U3 : Upd F w u := U1.trans U2 (fun i h => HF.out i h)
        clear cW y0 y1 x0 x1
        go_wp2_with fail
        go_ret
        rw [hE3.out]
        exact ⟨rfl, ⟨F2, hd2, fun i hi => by
            rcases hF2 i hi with h1 | h1
            · exact HF.out i h1
            · exact .inr (Nat.le_trans U1.size h1)⟩, U3⟩
    · have hke : k = n := by omega
      have hE3 : Hid (layD (pl L) D = (E.flush, E.operE)) := by
        show _ = _
        rw [HLay.out, hke, List.drop_of_length_le (by simp [pl, HL.out])]
        rfl
      have cF := Dk.flush_at HDk.out
      subst hke
      generalize E.operE = ee at cF hE3
      clear HLay
      go_wp2_with fail
      refine Calls.mono cF ?_
      rintro r u ⟨rfl, hd2, U2⟩
      go_wp2_with fail
      go_ret
      rw [hE3.out]
      exact ⟨rfl, ⟨F', hd2, HF.out⟩, U.trans U2 (fun i h => HF.out i h)⟩
end Go.Proofs.YtdkaacjeogifdaaGreat.H

/-
  Home of images of whole blocks: each block's last one, rising.
-/
namespace Go.Proofs.YtdkaacjeogifdaaGreat.H
open Go.RowKit Go.Maps
open Go.Proofs.YtdkaacjeogifdaaGreat.Rc (GG GetJ imgC Imgs)
open Go.Proofs.YtdkaacjeogifdaaGreat.Dk (Box Upd)

/-- the last image's bytes of a block -/
def lastD (L : List (Int × List UInt8)) (k : Int) : Option (List UInt8) := L.foldl (fun o p => if p.1 = k then some p.2 else o) none
def datD (L : List (Int × List UInt8)) (k : Int) : List UInt8 := (lastD L k).getD []
theorem last_both' : ∀ (L : List ImD) (m0 : Int → Option Value) (o0 : Option (List UInt8)) (k : Int),
    (∃ p ∈ L, p.1.1 = k ∧ ((L.map (·.1)).foldl (fun m q => fun j => if j = q.1 then some (imV q) else m j) m0) k = some (imV p.1) ∧ (pl L).foldl (fun o p => if p.1 = k then some p.2 else o) o0 = some p.2) ∨
    (((L.map (·.1)).foldl (fun m q => fun j => if j = q.1 then some (imV q) else m j) m0) k = m0 k ∧ (pl L).foldl (fun o p => if p.1 = k then some p.2 else o) o0 = o0 ∧ ∀ p ∈ L, p.1.1 ≠ k)
  | [], m0, o0, k => .inr ⟨rfl, rfl, fun p h => by cases h⟩
  | q :: r, m0, o0, k => by
    rw [List.map_cons, List.foldl_cons, pl, List.map_cons, List.foldl_cons]
    by_cases e : k = q.1.1
    · rcases last_both' r (fun j => if j = q.1.1 then some (imV q.1) else m0 j) (if q.1.1 = k then some q.2 else o0) k with ⟨p, hp, h1, h2, h3⟩ | ⟨h1, h2, h3⟩
      · exact .inl ⟨p, List.mem_cons_of_mem _ hp, h1, h2, h3⟩
      · refine .inl ⟨q, List.mem_cons_self .., e.symm, ?_, ?_⟩
        · rw [h1, if_pos e]
        · exact h2.trans (if_pos e.symm)
    · rcases last_both' r (fun j => if j = q.1.1 then some (imV q.1) else m0 j) (if q.1.1 = k then some q.2 else o0) k with ⟨p, hp, h1, h2, h3⟩ | ⟨h1, h2, h3⟩
      · exact .inl ⟨p, List.mem_cons_of_mem _ hp, h1, h2, h3⟩
      · refine .inr ⟨?_, h2.trans (if_neg (fun h => e h.symm)), fun p hp => ?_⟩
        · rw [h1, if_neg e]
        · rcases List.mem_cons.1 hp with rfl | hp
          · exact fun h => e h.symm
          · exact h3 p hp
theorem last_both (L : List ImD) (k : Int) : (∃ p ∈ L, p.1.1 = k ∧ mOf (L.map (·.1)) k = some (imV p.1) ∧ lastD (pl L) k = some p.2) ∨ (mOf (L.map (·.1)) k = none ∧ lastD (pl L) k = none ∧ ∀ p ∈ L, p.1.1 ≠ k) := last_both' L _ _ k

theorem whole_of {w : World} {L : List ImD} (h : ∀ p ∈ L, Dk.Rd w p.1.2.1 p.2 ∧ p.2.length = 4096 ∧ p.1.2.2.1 = 4096) : Whole w (mOf (L.map (·.1))) (datD (pl L)) := fun k hk => by
  rcases last_both L k with ⟨p, hp, h1, h2, h3⟩ | ⟨h1, _⟩
  · obtain ⟨r1, r2, r3⟩ := h p hp
    obtain ⟨⟨pb, pa, pn, pc⟩, xs⟩ := p
    dsimp only at h1 h2 h3 r1 r2 r3
    subst h1 r3
    obtain ⟨b, o, rfl, hc⟩ := r1 (by omega)
    have ed : datD (pl L) pb = xs := by rw [datD, h3]; rfl
    refine ⟨b, o, pc, h2, ?_, by rw [ed]; exact r2⟩
    rw [ed]
    exact r1
  · rw [h1] at hk
    cases hk
theorem rising_last {L : List ImD} {ks : List Int} (h : Rising (mOf (L.map (·.1))) ks) : ks.Pairwise (· < ·) ∧ ∀ x, x ∈ ks ↔ (lastD (pl L) x).isSome = true := by
  refine ⟨h.1, fun x => (h.2 x).trans ?_⟩
  rcases last_both L x with ⟨p, hp, h1, h2, h3⟩ | ⟨h1, h2, _⟩
  · rw [h2, h3]; simp
  · rw [h1, h2]; simp

theorem GetJ.le {B B' : Nat} {w : World} {qs : List GG} (h : GetJ B w qs) (hb : B' ≤ B) : GetJ B' w qs := ⟨fun p hp => ⟨(h.rows p hp).1, Nat.le_trans hb (h.rows p hp).2.1, (h.rows p hp).2.2⟩, h.apart⟩

/-- what Home answers: ks are the blocks, rising -/
structure HomeR (B : Nat) (L : List (Int × List UInt8)) (ks : List Int) (qs : List GG) (a : Option Addr) (c : Nat) (w : World) : Prop where
  rise : ks.Pairwise (· < ·)
  keys : ∀ x, x ∈ ks ↔ (lastD L x).isSome = true
  len : ks.length ≤ 512
  row : w.ownsRow B 57 2 (.slice a ks.length c) ks.length (imgC qs)
  get : GetJ B w qs
  bytes : qs.map (fun p => (p.b, p.xs)) = ks.map (fun k => (k, datD L k))

theorem home_at (w : World) (ga : Option Addr) (gn gc : Nat) (gs : List Gr) (L : List ImD) (hgn : gs.length = gn) (hgm : gn ≤ 1000000) (hG : CellsG w ga gs) (hL : allIs gs = L.map (·.1)) (hD : ∀ p ∈ L, Dk.Rd w p.1.2.1 p.2 ∧ p.2.length = 4096 ∧ p.1.2.2.1 = 4096) (hR : ∀ p ∈ L, 18 ≤ p.1.1 ∧ p.1.1 ≤ 63) :
    Calls Tryz.prog 7 #[.agg lay, .slice ga gn gc] w fun r w' => ∃ a c ks qs, r = .returned (.tuple #[.slice a (List.length ks) c, .int .i64 0]) ∧ HomeR w.heap.size (pl L) ks qs a c w' ∧ Below w.heap.size w w' := by
  have hall : (allIs gs).all (rightIm 18 ((64 : Nat) - 1)) = true := by
    rw [hL, List.all_eq_true]
    intro q hq
    obtain ⟨p, hp, rfl⟩ := List.mem_map.1 hq
    have := hR p hp
    simp [rightIm, Su.wi]
    omega
  have c := home_in w 64 2 16 18 19 4 23 ga gn gc gs (fun v w' => ∃ a c ks qs, v = .slice a (List.length ks) c ∧ HomeR w.heap.size (pl L) ks qs a c w') lay64 (by decide) (by decide) (by decide) hgn hgm hG (fun _ u gm hm hb => by
    rw [hL] at hm
    refine (rising_at hm (by decide) (whole_of (fun p hp => ?_))).mono ?_
    · obtain ⟨h1, h2, h3⟩ := hD p hp
      exact ⟨h1.below hb (Nat.le_refl _), h2, h3⟩
    · rintro r w' ⟨a', c', ks, qs, rfl, h1, h2, h3, h4, h5, h6⟩
      exact ⟨_, rfl, ⟨a', c', ks, qs, rfl, (rising_last h1).1, (rising_last h1).2, h2, owns_le h3 hb.size, GetJ.le h4 hb.size, h5⟩, h6.mono hb.size⟩)
  refine c.mono ?_
  rintro r w' ⟨h1, _, h3⟩
  obtain ⟨v, rfl, a, c, ks, qs, rfl, hh⟩ := h1 hall
  exact ⟨a, c, ks, qs, rfl, hh, h3⟩
theorem home_no (w : World) (ga : Option Addr) (gn gc : Nat) (gs : List Gr) (hgn : gs.length = gn) (hgm : gn ≤ 1000000) (hG : CellsG w ga gs) (hno : (allIs gs).all (rightIm 18 63) = false) :
    Calls Tryz.prog 7 #[.agg lay, .slice ga gn gc] w fun r w' => r = .returned (.tuple #[.slice none 0 0, .int .i64 90]) ∧ Below w.heap.size w w' := by
  have c := home_in w 64 2 16 18 19 4 23 ga gn gc gs (fun _ _ => False) lay64 (by decide) (by decide) (by decide) hgn hgm hG (fun h => by
    have h : (allIs gs).all (rightIm 18 63) = true := h
    rw [hno] at h
    cases h)
  refine c.mono ?_
  rintro r w' ⟨_, h2, h3⟩
  exact ⟨h2 hno, h3⟩

/-- images in memory, for those who read them -/
theorem HomeR.imgs {B : Nat} {L : List (Int × List UInt8)} {ks : List Int} {qs : List GG} {a : Option Addr} {c : Nat} {w : World} (h : HomeR B L ks qs a c w) : Imgs w a (ks.map fun k => (k, datD L k)) := by
  rw [← h.bytes]
  have hq : qs.length = ks.length := by simpa using congrArg List.length h.bytes
  intro hp
  have hp2 : 0 < qs.length := by simpa using hp
  obtain ⟨g, rfl, _, _, hc⟩ := owns_cells h.row (by omega)
  refine ⟨g, 0, rfl, fun j hj => ?_⟩
  have hj : j < qs.length := by simpa using hj
  obtain ⟨e1, e2⟩ := Rc.imgC_at qs j hj
  obtain ⟨r1, r2, r3⟩ := h.get.rows qs[j] (List.getElem_mem hj)
  obtain ⟨cur, _, k1, k2, _⟩ := id r1
  rw [List.getElem_map]
  refine ⟨?_, some ⟨qs[j].h, 0, none⟩, qs[j].c, ?_, k1, by unfold maxLen at k2; omega, fun h => (by cases h), r1.rd⟩
  · show w.cell? ⟨g, 0 + j * 2, none⟩ = _
    rw [Nat.zero_add, hc _ (by omega), e1]
  · show w.cell? ⟨g, 0 + j * 2 + 1, none⟩ = some (.slice (some ⟨qs[j].h, 0, none⟩) qs[j].xs.length qs[j].c)
    rw [Nat.zero_add, hc _ (by omega), e2, r3]
def qD (qs : List GG) : List ImD := qs.map fun p => ((p.b, some ⟨p.h, 0, none⟩, 4096, p.c), p.xs)
theorem HomeR.imsD {B : Nat} {L : List (Int × List UInt8)} {ks : List Int} {qs : List GG} {a : Option Addr} {c : Nat} {w : World} (h : HomeR B L ks qs a c w) (F : Nat → Prop) (hF : ∀ i, F i → i < B) : ImsD w a (qD qs) F ∧ (qD qs).length = ks.length ∧ pl (qD qs) = ks.map fun k => (k, datD L k) := by
  have hq : qs.length = ks.length := by simpa using congrArg List.length h.bytes
  refine ⟨⟨fun hp => ?_, fun p hp => ?_, fun ad e => ?_⟩, by simp [qD, hq], by rw [← h.bytes]; simp [qD, pl]⟩
  · have hp2 : 0 < qs.length := by simpa [qD] using hp
    obtain ⟨g, rfl, _, _, hc⟩ := owns_cells h.row (by omega)
    refine ⟨g, 0, rfl, fun j hj => ?_⟩
    have hj : j < qs.length := by simpa [qD] using hj
    obtain ⟨e1, e2⟩ := Rc.imgC_at qs j hj
    simp only [qD, List.getElem_map, List.map_map]
    refine ⟨?_, ?_⟩
    · rw [Nat.zero_add, hc _ (by omega), e1]
      rfl
    · rw [Nat.zero_add, hc _ (by omega), e2]
      rfl
  · obtain ⟨q, hq, rfl⟩ := List.mem_map.1 hp
    obtain ⟨r1, r2, r3⟩ := h.get.rows q hq
    exact ⟨r1.rd, r3, fun ad e => by
      injection e with e
      rw [← e]
      exact ⟨r1.lt, fun hf => absurd r2 (Nat.not_le.2 (hF _ hf))⟩⟩
  · intro hf
    have := hF _ hf
    rcases h.row.2 with ⟨h1, h2⟩ | ⟨g, cap, cur, h1, hBg, _⟩
    · injection h1 with h1
      rw [h1] at e
      cases e
    · injection h1 with h1
      rw [h1] at e
      injection e with e
      rw [← e] at this
      exact absurd hBg (Nat.not_le.2 this)
end Go.Proofs.YtdkaacjeogifdaaGreat.H

/-
  rising of images of any length.
-/
namespace Go.Proofs.YtdkaacjeogifdaaGreat.H
open Go.RowKit Go.Maps
open Go.Proofs.YtdkaacjeogifdaaGreat.Rc (RowB owns_below owns_shape owns_block Box Imgs)

/-- what Clone answers: nothing, or a row of its own -/
def CloneR (B : Nat) (u : World) (a : Option Addr) (c : Nat) (xs : List UInt8) : Prop := xs.length ≤ c ∧ c ≤ 9223372036854775807 ∧ (a = none → c = 0) ∧ (xs = [] ∨ ∃ g, a = some ⟨g, 0, none⟩ ∧ B ≤ g ∧ RowB u g c xs)
theorem CloneR.rd {B : Nat} {u : World} {a : Option Addr} {c : Nat} {xs : List UInt8} (h : CloneR B u a c xs) : Rc.Rd u a xs := by
  rcases h.2.2.2 with e | ⟨g, rfl, _, r⟩
  · rw [e]; exact Rc.Rd.nil _ _
  · exact r.rd
theorem CloneR.mono {B : Nat} {u u' : World} {a : Option Addr} {c : Nat} {xs : List UInt8} (h : CloneR B u a c xs) (hk : ∀ g cur, Box u g cur 5 → u'.heap[g]? = u.heap[g]?) : CloneR B u' a c xs := by
  refine ⟨h.1, h.2.1, h.2.2.1, h.2.2.2.imp id fun ⟨g, e, hB, r⟩ => ⟨g, e, hB, r.same ?_⟩⟩
  obtain ⟨cur, hb, _⟩ := id r
  exact hk g cur hb
theorem clone_any (cap n : Nat) (a : Option Addr) (xs : List UInt8) (w : World) (hl : xs.length = n) (hn : n ≤ 140737488355328) (hr : Rc.Rd w a xs) (hnil : a = none → cap = 0) :
    Calls Tryz.prog 46 #[.slice a n cap] w fun e w' => ∃ a' c', e = .returned (.slice a' n c') ∧ CloneR w.heap.size w' a' c' xs ∧ Below w.heap.size w w' := by
  cases a with
  | none =>
    have h0 : n = 0 := by
      rcases Nat.eq_zero_or_pos n with h | h
      · exact h
      · obtain ⟨_, _, e, _⟩ := hr (by omega)
        cases e
    subst h0
    have hx : xs = [] := List.eq_nil_of_length_eq_zero hl
    have hc := hnil rfl
    subst hc hx
    clear hl hr hnil
    have hq : ∀ u : World, (binOp .eql 22 (.slice none 0 0) (.slice none 0 0)).run Tryz.prog u = .ok (.bool true) u := fun u => Lib.run_eql_slice_nil u 22 5 none 0 0 0 0 Tryz.underlying22
    go_enter Tryz.func46, Tryz.ntmps46
    go_wp2_with fail
    go_ret
    exact ⟨none, 0, rfl, ⟨Nat.le_refl _, by decide, fun _ => rfl, .inl rfl⟩, Below.refl _ _⟩
  | some ad =>
    obtain ⟨i0, hi, hz0, hz1, hz2⟩ := info_parts Rc.info5
    have hq : ∀ u : World, (binOp .eql 22 (.slice (some ad) n cap) (.slice none 0 0)).run Tryz.prog u = .ok (.bool false) u := fun u => Lib.run_eql_slice_nil u 22 5 (some ad) n cap 0 0 Tryz.underlying22
    have o1 : (w.alloc (.cells #[] 5)).ownsRow w.heap.size 5 1 (.slice (some ⟨w.heap.size, 0, none⟩) 0 0) 0 [] := ⟨rfl, .inr ⟨w.heap.size, 0, #[], rfl, Nat.le_refl _, heap_alloc_new w _, Nat.le_refl _, by simp [maxLen], rfl, rfl⟩⟩
    have hr1 := hr.below ((Below.refl w.heap.size w).alloc (Nat.le_refl _) (.cells #[] 5)) (Nat.le_refl _)
    have B1 := (Below.refl w.heap.size w).alloc (Nat.le_refl _) (.cells #[] 5)
    go_enter Tryz.func46, Tryz.ntmps46
    go_wp2_with (at_builtin; refine Rc.wpList_append_bytes rfl _ _ rfl w.heap.size _ 0 [] rfl o1 (some ad) n cap xs rfl hl hr1 (fun h => by cases h) (by omega) (by simp) ?_)
    intro v' w1 hown hgrow
    have hown1 : w1.ownsRow w.heap.size 5 1 v' n (Rc.bcs xs) := by simpa using hown
    have hb : Below w.heap.size w w1 := B1.grown hgrow (by simp) (fun k hk => by simp [Value.ownBlock] at hk; omega)
    have key : ∃ a' c', v' = .slice a' n c' ∧ CloneR w.heap.size w1 a' c' xs := by
      rcases Nat.eq_zero_or_pos n with h0 | h0
      · have hx : xs = [] := List.eq_nil_of_length_eq_zero (by omega)
        rcases hown1.2 with ⟨e1, _⟩ | ⟨g, c, cur, e1, _, _, h1, h2, _⟩
        · exact ⟨none, 0, by rw [e1, h0], ⟨by rw [hx]; exact Nat.le_refl _, by decide, fun _ => rfl, .inl hx⟩⟩
        · exact ⟨some ⟨g, 0, none⟩, c, e1, ⟨by rw [hx]; exact Nat.zero_le _, by unfold maxLen at h2; omega, fun h => (by cases h), .inl hx⟩⟩
      · obtain ⟨h, c, rfl, hh, hrow⟩ := Rc.RowB.owns hown1 h0
        obtain ⟨_, _, q1, q2, _⟩ := id hrow
        exact ⟨some ⟨h, 0, none⟩, c, rfl, ⟨q1, by unfold maxLen at q2; omega, fun h => (by cases h), .inr ⟨h, rfl, hh, hrow⟩⟩⟩
    obtain ⟨a', c', rfl, hC⟩ := key
    have HC : Hid (CloneR w.heap.size w1 a' c' xs) := hC
    clear hgrow hown hown1 o1 B1 hr1 hC
    go_wp2
    go_ret
    exact ⟨a', c', rfl, HC.out, hb⟩

/-- the cells of images -/
def imC (L : List ImD) : List Value := L.flatMap fun p => [.int .i64 p.1.1, .slice p.1.2.1 p.1.2.2.1 p.1.2.2.2]
theorem imC_at (L : List ImD) (i : Nat) (h : i < L.length) : (imC L)[i * 2]? = some (.int .i64 L[i].1.1) ∧ (imC L)[i * 2 + 1]? = some (.slice L[i].1.2.1 L[i].1.2.2.1 L[i].1.2.2.2) := by
  induction L generalizing i with
  | nil => simp at h
  | cons p l ih =>
    cases i with
    | zero => simp [imC]
    | succ i =>
      have := ih i (by simpa using h)
      simp only [imC, List.flatMap_cons, List.getElem_cons_succ] at this ⊢
      rw [show (i + 1) * 2 = i * 2 + 2 by omega, show i * 2 + 2 + 1 = i * 2 + 1 + 2 by omega]
      simpa using this
/-- images, each datum a clone -/
def ClonesR (B : Nat) (u : World) (L : List ImD) : Prop := ∀ p ∈ L, CloneR B u p.1.2.1 p.1.2.2.2 p.2 ∧ p.2.length = p.1.2.2.1
theorem clones_imgs {B B' n c : Nat} {u : World} {a : Option Addr} {L : List ImD} (ho : u.ownsRow B 57 2 (.slice a n c) n (imC L)) (hl : L.length = n) (hC : ClonesR B' u L) : Imgs u a (pl L) := fun hp => by
  have hp2 : 0 < L.length := by simpa [pl] using hp
  obtain ⟨g, rfl, _, _, hc⟩ := owns_cells ho (by omega)
  refine ⟨g, 0, rfl, fun j hj => ?_⟩
  have hj : j < L.length := by simpa [pl] using hj
  obtain ⟨e1, e2⟩ := imC_at L j hj
  obtain ⟨r1, r2⟩ := hC L[j] (List.getElem_mem hj)
  simp only [pl, List.getElem_map]
  refine ⟨?_, L[j].1.2.1, L[j].1.2.2.2, ?_, r1.1, r1.2.1, r1.2.2.1, r1.rd⟩
  · show u.cell? ⟨g, 0 + j * 2, none⟩ = _
    rw [Nat.zero_add, hc _ (by omega), e1]
  · show u.cell? ⟨g, 0 + j * 2 + 1, none⟩ = some (.slice _ L[j].2.length _)
    rw [Nat.zero_add, hc _ (by omega), e2, r2]

/-- what m holds: images -/
def AnyIm (w : World) (m : Int → Option Value) (dat : Int → List UInt8) : Prop := ∀ k, (m k).isSome = true → ∃ a n c, m k = some (.agg #[.int .i64 k, .slice a n c]) ∧ Rc.Rd w a (dat k) ∧ (dat k).length = n ∧ n ≤ 140737488355328 ∧ (a = none → c = 0)

set_option maxRecDepth 100000 in
set_option maxHeartbeats 4000000 in
theorem risingA_at {w : World} {b n : Nat} {m : Int → Option Value} {dat : Int → List UInt8} (h : MapI w b n m) (hn : n ≤ 1000) (hw : AnyIm w m dat) :
    Calls Tryz.prog 31 #[.map (some b)] w fun r w' => ∃ a' c' ks L, r = .returned (.slice a' (List.length ks) c') ∧ Rising m ks ∧ ks.length ≤ n ∧ w'.ownsRow w.heap.size 57 2 (.slice a' ks.length c') ks.length (imC L) ∧ ClonesR w.heap.size w' L ∧ pl L = ks.map (fun k => (k, dat k)) ∧ Below w.heap.size w w' := by
  obtain ⟨i0, hi, hz0, hz1, hz2⟩ := info_parts Rc.info38
  have cK := keys_at (some b) w
  have cS := sorted_at h (by omega : n ≤ 100000)
  have HW : Hid (AnyIm w m dat) := hw
  have HM : Hid (MapI w b n m) := h
  clear h hw
  go_enter Tryz.func31, Tryz.ntmps31
  go_wp2_with fail
  refine Calls.mono cK ?_
  rintro r u1 ⟨rfl, rfl⟩
  clear cK
  go_wp2_with fail
  refine Calls.mono cS ?_
  rintro r u2 ⟨v, ks, rfl, hR, hkn, hrow, b2⟩
  have HR : Hid (Rising m ks) := hR
  have HRow : Hid (u2.ownsRow w.heap.size 3 1 v ks.length (ks.map encZ)) := hrow
  obtain ⟨ak, ck, rfl⟩ := owns_shape hrow
  obtain ⟨N, hN⟩ : ∃ N, N = ks.length := ⟨_, rfl⟩
  have HN : Hid (N = ks.length) := hN
  rw [← hN] at HRow hkn ⊢
  clear hN hrow hR cS
  go_wp2_with fail
  go_loopw [3, 10] (fun v i u => ∃ (k : Nat) (L : List ImD), k ≤ N ∧ i = .int .i64 (k : Int) ∧ u.ownsRow u2.heap.size 57 2 v k (imC L) ∧ ClonesR w.heap.size u L ∧ pl L = (ks.take k).map (fun k => (k, dat k)) ∧ Below u2.heap.size u2 u) (fun _ i _ => N - (intOf i).toNat)
  case atStart => exact ⟨0, [], Nat.zero_le _, rfl, World.ownsRow_nil _ _ _ _, fun p hp => (by cases hp), by simp [pl], Below.refl _ _⟩
  case round =>
    obtain ⟨k, L, hk, rfl, hown, hJ, hps, B⟩ := hrel
    have HPS : Hid (pl L = (ks.take k).map (fun k => (k, dat k))) := hps
    have HJ : Hid (ClonesR w.heap.size wr L) := hJ
    have HOWN : Hid (wr.ownsRow u2.heap.size 57 2 u3 k (imC L)) := hown
    clear hps hJ
    obtain ⟨av, cv, rfl⟩ := owns_shape hown
    by_cases hlt : k < N
    · have hki : (k : Int) < (N : Int) := by omega
      have hkl : k < ks.length := by rw [← HN.out]; exact hlt
      obtain ⟨kg, rfl, _, _, hc⟩ := owns_cells HRow.out (by omega)
      obtain ⟨K, hK⟩ : ∃ K, K = ks[k] := ⟨_, rfl⟩
      have ck0 : u2.cell? ⟨kg, k, none⟩ = some (.int .i64 K) := by
        rw [hc k (by omega), hK]
        simp [hkl]
      have ckw : wr.cell? ⟨kg, k, none⟩ = some (.int .i64 K) := (B.cell (p := ⟨kg, k, none⟩) (block_lt_of_cell ck0)).trans ck0
      obtain ⟨da, dn, dc, em, rd, hl, hdn, hdz⟩ := HW.out K ((HR.out.2 K).1 (by rw [hK]; exact List.getElem_mem hkl))
      have Bw : Below w.heap.size w wr := b2.trans (B.mono b2.size)
      have lk := (HM.out.below Bw).look K _ em
      have cC := clone_any dc dn da (dat K) wr hl hdn (rd.below Bw (Nat.le_refl _)) hdz
      have hstep : Hid ((ks.take (k + 1)).map (fun k => (k, dat k)) = (ks.take k).map (fun k => (k, dat k)) ++ [(K, dat K)]) := by
        show _ = _
        rw [List.take_succ_eq_append_getElem hkl, List.map_append, hK]; rfl
      have hml : Hid ((dat K).length = dn) := hl
      generalize dat K = ml at cC hstep hml
      clear hown hc ck0 hK rd hl em
      have fd : (Instr.field 57 (.agg #[.int .i64 K, .slice da dn dc]) 1).run Tryz.prog wr = .ok (.slice da dn dc) wr := by kernel_rfl
      go_wp2_with fail
      refine Calls.mono cC ?_
      rintro r W ⟨ha, cg, rfl, hgl, bW⟩
      have z0 : w.heap.size ≤ wr.heap.size := Bw.size
      have J2 : Hid (ClonesR w.heap.size W (L ++ [((K, ha, dn, cg), ml)])) := fun p hp => by
        rcases List.mem_append.1 hp with hp | hp
        · exact ⟨(HJ.out p hp).1.mono (fun g _ q => bW.block g q.lt), (HJ.out p hp).2⟩
        · simp at hp
          subst hp
          exact ⟨⟨hgl.1, hgl.2.1, hgl.2.2.1, hgl.2.2.2.imp id fun ⟨g, e, hB, r⟩ => ⟨g, e, Nat.le_trans z0 hB, r⟩⟩, hml.out⟩
      have O2 : Hid (W.ownsRow u2.heap.size 57 2 (.slice av k cv) k (imC L)) := owns_below HOWN.out bW
      have B1 := B.trans (bW.mono B.size)
      have own1 := (O2.out).alloc (.cells #[.int .i64 K, .slice ha dn cg] 57)
      have z1 := B1.size
      have z2 := b2.size
      clear bW cC B fd lk ckw hgl
      go_wp2_with (at_builtin; refine wpList_append_own _ rfl _ _ 26 rfl u2.heap.size 57 i0 _ 2 32 Tryz.underlying26 hi hz0 hz1 hz2 rfl (by decide) _ k _ rfl own1 ⟨W.heap.size, 0, none⟩ 1 1 [.int .i64 K, .slice ha dn cg] rfl rfl ?c1 ?c2 ?c3 ?c4 ?c5 ?_)
      case c1 => exact World.news_of_block (cs := #[.int .i64 K, .slice ha dn cg]) (t := 57) (fr := (0, 0)) (heap_alloc_new W _)
      case c2 => intro u hu; simp at hu; rcases hu with rfl | rfl <;> rfl
      case c3 => unfold maxLen; omega
      case c4 => omega
      case c5 => simp; omega
      · intro v' w1 hown1 hgrow _
        have al := (Below.refl _ W).alloc (Nat.le_refl _) (.cells #[.int .i64 K, .slice ha dn cg] 57)
        have B2 : Below u2.heap.size u2 w1 := (B1.alloc z1 _).grown hgrow (by simp; omega) (fun j e => (owns_block O2.out j e).1)
        have J3 : ClonesR w.heap.size w1 (L ++ [((K, ha, dn, cg), ml)]) := fun p hp => ⟨(((J2.out p hp).1.mono (fun g _ q => al.block g q.lt))).mono (fun g cur q => hgrow.block g q.lt (fun e => by
          obtain ⟨_, cur', hb'⟩ := owns_block own1 g e.symm
          exact Box.ne q hb' (by decide) rfl)), (J2.out p hp).2⟩
        clear hgrow own1 al
        go_wp2_with fail
        go_roundw
        case rel => exact ⟨k + 1, _, by omega, by push_cast; rfl, by simpa [imC] using hown1, J3, by rw [show pl (L ++ [((K, ha, dn, cg), ml)]) = pl L ++ [(K, ml)] by simp [pl], HPS.out, hstep.out], B2⟩
        case measure => simp [intOf]; omega
    · have hke : k = N := by omega
      have hke2 : ks.take k = ks := by rw [hke, HN.out, List.take_length]
      rw [hke2] at HPS
      rw [hke] at HOWN ⊢
      clear hke hlt hk hown hke2
      go_wp2_with fail
      go_ret
      refine ⟨av, cv, ks, L, by rw [HN.out]; rfl, HR.out, by rw [← HN.out]; exact hkn, ?_, HJ.out, HPS.out, b2.trans (B.mono b2.size)⟩
      rw [← HN.out]
      exact owns_le HOWN.out b2.size
end Go.Proofs.YtdkaacjeogifdaaGreat.H

/-
  Home of a layout that is none.
-/
namespace Go.Proofs.YtdkaacjeogifdaaGreat.H
open Go.RowKit
open Go.Proofs.YtdkaacjeogifdaaGreat.Dk (Box)

theorem home_bad (w : World) (l0 l1 l2 l3 l4 l5 l6 : Int) (v : Value) (h : ¬(64 ≤ l0 ∧ l0 ≤ 512)) :
    Calls Tryz.prog 7 #[.agg #[.int .i64 l0, .int .i64 l1, .int .i64 l2, .int .i64 l3, .int .i64 l4, .int .i64 l5, .int .i64 l6], v] w fun r w' => r = .returned (.tuple #[.slice none 0 0, .int .i64 2]) ∧ Below w.heap.size w w' := by
  have al := (Below.refl w.heap.size w).alloc (Nat.le_refl _) (.cells #[.int .i64 l0, .int .i64 l1, .int .i64 l2, .int .i64 l3, .int .i64 l4, .int .i64 l5, .int .i64 l6] 24)
  have x := Box.new w #[.int .i64 l0, .int .i64 l1, .int .i64 l2, .int .i64 l3, .int .i64 l4, .int .i64 l5, .int .i64 l6] 24
  have c0 := x.cell 0
  simp only [List.getElem?_toArray, List.getElem?_cons_zero] at c0
  have cO := La.of_bad l0 (w.alloc (.cells #[.int .i64 l0, .int .i64 l1, .int .i64 l2, .int .i64 l3, .int .i64 l4, .int .i64 l5, .int .i64 l6] 24)) h
  unfold La.noneA at cO
  clear h x
  go_enter Tryz.func7, Tryz.ntmps7
  go_wp2_with fail
  refine Calls.mono cO ?_
  rintro r u1 ⟨rfl, b1⟩
  have B1 := al.trans (b1.mono al.size)
  have B2 := B1.alloc B1.size (.cells #[.int .i64 0, .int .i64 0, .int .i64 0, .int .i64 0, .int .i64 0, .int .i64 0, .int .i64 0] 24)
  clear cO b1 c0 al
  go_wp2_with fail
  exact bodyPost_ret (v := .tuple #[.slice none 0 0, .int .i64 2]) (by simp [results, Tryz.results7, go_sem]) rfl ⟨rfl, B2⟩
end Go.Proofs.YtdkaacjeogifdaaGreat.H

/-
  Home of any layout, of images of any length.
-/
namespace Go.Proofs.YtdkaacjeogifdaaGreat.H
open Go.RowKit Go.Maps
open Go.Proofs.YtdkaacjeogifdaaGreat.Rc (Imgs)
open Go.Proofs.YtdkaacjeogifdaaGreat.Dk (Box)

/-- images of any length, in memory -/
def AnyD (w : World) (L : List ImD) : Prop := ∀ p ∈ L, Rc.Rd w p.1.2.1 p.2 ∧ p.2.length = p.1.2.2.1 ∧ p.1.2.2.1 ≤ 140737488355328 ∧ (p.1.2.1 = none → p.1.2.2.2 = 0)
theorem anyIm_of {w : World} {L : List ImD} (h : AnyD w L) : AnyIm w (mOf (L.map (·.1))) (datD (pl L)) := fun k hk => by
  rcases last_both L k with ⟨p, hp, h1, h2, h3⟩ | ⟨h1, _⟩
  · obtain ⟨r1, r2, r3, r4⟩ := h p hp
    obtain ⟨⟨pb, pa, pn, pc⟩, xs⟩ := p
    dsimp only at h1 h2 h3 r1 r2 r3 r4
    subst h1
    have ed : datD (pl L) pb = xs := by rw [datD, h3]; rfl
    exact ⟨pa, pn, pc, h2, by rw [ed]; exact r1, by rw [ed]; exact r2, r3, r4⟩
  · rw [h1] at hk
    cases hk
/-- ks: the blocks of L, rising -/
def KeysOf (L : List (Int × List UInt8)) (ks : List Int) : Prop := ks.Pairwise (· < ·) ∧ ∀ x, x ∈ ks ↔ (lastD L x).isSome = true
theorem homeA_at (nb : Nat) (h64 : 64 ≤ nb) (h512 : nb ≤ 512) (w : World) (ga : Option Addr) (gn gc : Nat) (gs : List Gr) (L : List ImD) (hgn : gs.length = gn) (hgm : gn ≤ 1000000) (hG : CellsG w ga gs) (hL : allIs gs = L.map (·.1)) (hD : AnyD w L) :
    Calls Tryz.prog 7 #[.agg (La.layA nb), .slice ga gn gc] w fun r w' =>
      ((L.all fun p => rightIm (2 + (La.lgs nb : Int)) (nb - 1) p.1) = true → ∃ a c ks, r = .returned (.tuple #[.slice a (List.length ks) c, .int .i64 0]) ∧ KeysOf (pl L) ks ∧ ks.length ≤ 512 ∧ Imgs w' a (ks.map fun k => (k, datD (pl L) k))) ∧
      ((L.all fun p => rightIm (2 + (La.lgs nb : Int)) (nb - 1) p.1) = false → r = .returned (.tuple #[.slice none 0 0, .int .i64 90])) ∧ Below w.heap.size w w' := by
  have hall : (allIs gs).all (rightIm (2 + (La.lgs nb : Int)) (nb - 1)) = L.all fun p => rightIm (2 + (La.lgs nb : Int)) (nb - 1) p.1 := by
    rw [hL, List.all_map]
    rfl
  have c := home_in w nb 2 (La.lgs nb) (2 + La.lgs nb) (3 + La.lgs nb) ((nb : Int) / 16) (3 + (La.lgs nb : Int) + (nb : Int) / 16) ga gn gc gs (fun v w' => ∃ a c ks, v = .slice a (List.length ks) c ∧ KeysOf (pl L) ks ∧ ks.length ≤ 512 ∧ Imgs w' a (ks.map fun k => (k, datD (pl L) k))) rfl h64 h512 (by omega) hgn hgm hG (fun _ u gm hm hb => by
    rw [hL] at hm
    refine (risingA_at hm (by decide) (anyIm_of (fun p hp => ?_))).mono ?_
    · obtain ⟨h1, h2, h3⟩ := hD p hp
      exact ⟨h1.below hb (Nat.le_refl _), h2, h3⟩
    · rintro r w' ⟨a', c', ks, M, rfl, h1, h2, h3, h4, h5, h6⟩
      refine ⟨_, rfl, ⟨a', c', ks, rfl, rising_last h1, h2, ?_⟩, h6.mono hb.size⟩
      have hl : M.length = ks.length := by
        have := congrArg List.length h5
        simpa [pl] using this
      have := clones_imgs h3 hl h4
      rw [h5] at this
      exact this)
  refine c.mono ?_
  rintro r w' ⟨h1, h2, h3⟩
  rw [hall] at h1 h2
  refine ⟨fun h => ?_, h2, h3⟩
  obtain ⟨v, rfl, a, c, ks, rfl, hh⟩ := h1 h
  exact ⟨a, c, ks, rfl, hh⟩

/-- a layout of as many blocks, but another one -/
theorem home_other (nb : Nat) (h64 : 64 ≤ nb) (h512 : nb ≤ 512) (w : World) (l1 l2 l3 l4 l5 l6 : Int) (v : Value) (hne : #[Value.int .i64 nb, .int .i64 l1, .int .i64 l2, .int .i64 l3, .int .i64 l4, .int .i64 l5, .int .i64 l6] ≠ La.layA nb) :
    Calls Tryz.prog 7 #[.agg #[.int .i64 nb, .int .i64 l1, .int .i64 l2, .int .i64 l3, .int .i64 l4, .int .i64 l5, .int .i64 l6], v] w fun r w' => r = .returned (.tuple #[.slice none 0 0, .int .i64 2]) ∧ Below w.heap.size w w' := by
  have al := (Below.refl w.heap.size w).alloc (Nat.le_refl _) (.cells #[.int .i64 nb, .int .i64 l1, .int .i64 l2, .int .i64 l3, .int .i64 l4, .int .i64 l5, .int .i64 l6] 24)
  have x := Box.new w #[.int .i64 nb, .int .i64 l1, .int .i64 l2, .int .i64 l3, .int .i64 l4, .int .i64 l5, .int .i64 l6] 24
  have c0 := x.cell 0
  simp only [List.getElem?_toArray, List.getElem?_cons_zero] at c0
  have cO := La.of_good nb (w.alloc (.cells #[.int .i64 nb, .int .i64 l1, .int .i64 l2, .int .i64 l3, .int .i64 l4, .int .i64 l5, .int .i64 l6] 24)) h64 h512
  have hq : ∀ u, (binOp .neq 24 (.agg #[.int .i64 nb, .int .i64 l1, .int .i64 l2, .int .i64 l3, .int .i64 l4, .int .i64 l5, .int .i64 l6]) (.agg (La.layA nb))).run Tryz.prog u = .ok (.bool true) u := fun u => by
    unfold La.layA
    rw [neq7]
    have : La.same7 nb l1 l2 l3 l4 l5 l6 nb 2 (La.lgs nb) (2 + (La.lgs nb : Int)) (3 + (La.lgs nb : Int)) ((nb : Int) / 16) (3 + (La.lgs nb : Int) + (nb : Int) / 16) = false := by
      cases h : La.same7 nb l1 l2 l3 l4 l5 l6 nb 2 (La.lgs nb) (2 + (La.lgs nb : Int)) (3 + (La.lgs nb : Int)) ((nb : Int) / 16) (3 + (La.lgs nb : Int) + (nb : Int) / 16) with
      | false => rfl
      | true =>
        simp only [La.same7, decide_eq_true_eq] at h
        obtain ⟨_, rfl, rfl, rfl, rfl, rfl, rfl⟩ := h
        exact absurd rfl hne
    rw [this]
    rfl
  unfold La.layA at cO hq
  clear hne
  generalize (2 + (La.lgs nb : Int)) = m3 at cO hq
  generalize (3 + (La.lgs nb : Int) + (nb : Int) / 16) = m6 at cO hq
  generalize (3 + (La.lgs nb : Int)) = m4 at cO hq
  generalize ((nb : Int) / 16) = m5 at cO hq
  generalize (La.lgs nb : Int) = m2 at cO hq
  go_enter Tryz.func7, Tryz.ntmps7
  go_wp2_with fail
  refine Calls.mono cO ?_
  rintro r u1 ⟨rfl, b1⟩
  have B1 := al.trans (b1.mono al.size)
  have x1 := (x.below b1).alloc (.cells #[.int .i64 nb, .int .i64 2, .int .i64 m2, .int .i64 m3, .int .i64 m4, .int .i64 m5, .int .i64 m6] 24)
  have y1 := Box.new u1 #[.int .i64 nb, .int .i64 2, .int .i64 m2, .int .i64 m3, .int .i64 m4, .int .i64 m5, .int .i64 m6] 24
  have B2 := B1.alloc B1.size (.cells #[.int .i64 nb, .int .i64 2, .int .i64 m2, .int .i64 m3, .int .i64 m4, .int .i64 m5, .int .i64 m6] 24)
  have c0 := x1.cell 0
  have c1 := x1.cell 1
  have c2 := x1.cell 2
  have c3 := x1.cell 3
  have c4 := x1.cell 4
  have c5 := x1.cell 5
  have c6 := x1.cell 6
  have d0 := y1.cell 0
  have d1 := y1.cell 1
  have d2 := y1.cell 2
  have d3 := y1.cell 3
  have d4 := y1.cell 4
  have d5 := y1.cell 5
  have d6 := y1.cell 6
  simp only [List.getElem?_toArray, List.getElem?_cons_zero, List.getElem?_cons_succ] at c0 c1 c2 c3 c4 c5 c6 d0 d1 d2 d3 d4 d5 d6
  clear cO b1 x al x1 y1 B1
  go_wp2_with fail
  exact bodyPost_ret (v := .tuple #[.slice none 0 0, .int .i64 2]) (by simp [results, Tryz.results7, go_sem]) rfl ⟨rfl, B2⟩
end Go.Proofs.YtdkaacjeogifdaaGreat.H

/-
  What ReplayTells' arguments are, as they come in: bytes, a layout, groups, images, a super.
-/
namespace Go.Proofs.YtdkaacjeogifdaaGreat.H
open Go.ChangeShapes Go.WideShapes Go.ChangeAt Go.RowKit Go.Deep

theorem cells57 : Tryz.prog.cellsOf 57 = 2 := by kernel_rfl
theorem cells60 : Tryz.prog.cellsOf 60 = 3 := by kernel_rfl
theorem cells26 : Tryz.prog.cellsOf 26 = 1 := by kernel_rfl
theorem cells22 : Tryz.prog.cellsOf 22 = 1 := by kernel_rfl
theorem cells28 : Tryz.prog.cellsOf 28 = 4 := by kernel_rfl
theorem cells24 : Tryz.prog.cellsOf 24 = 7 := by kernel_rfl
theorem cells3 : Tryz.prog.cellsOf 3 = 1 := by kernel_rfl
theorem list2 {α : Type} {l : List α} (h : l.length = 2) : ∃ a b, l = [a, b] := by
  match l, h with
  | [a, b], _ => exact ⟨a, b, rfl⟩
theorem list3 {α : Type} {l : List α} (h : l.length = 3) : ∃ a b c, l = [a, b, c] := by
  match l, h with
  | [a, b, c], _ => exact ⟨a, b, c, rfl⟩
theorem list4 {α : Type} {l : List α} (h : l.length = 4) : ∃ a b c d, l = [a, b, c, d] := by
  match l, h with
  | [a, b, c, d], _ => exact ⟨a, b, c, d, rfl⟩
theorem list7 {α : Type} {l : List α} (h : l.length = 7) : ∃ a b c d e f g, l = [a, b, c, d, e, f, g] := by
  match l, h with
  | [a, b, c, d, e, f, g], _ => exact ⟨a, b, c, d, e, f, g, rfl⟩
theorem choose_below {α : Type} {P : Nat → α → Prop} {n : Nat} (z : α) (h : ∀ i, i < n → ∃ x, P i x) : ∃ f : Nat → α, ∀ i, i < n → P i (f i) := by
  classical
  refine ⟨fun i => if hi : i < n then Classical.choose (h i hi) else z, fun i hi => ?_⟩
  simp only [dif_pos hi]
  exact Classical.choose_spec (h i hi)
theorem bulk_one {H : Type} (d : DataW H) : 1 ≤ Rows.uptoBulk d := by
  cases d with
  | lit l => cases l <;> simp [Rows.uptoBulk]
  | nil => simp [Rows.uptoBulk]
  | ptr d => simp [Rows.uptoBulk]
  | slice e s => simp [Rows.uptoBulk]
  | agg p => simp [Rows.uptoBulk]
  | iface t d => simp [Rows.uptoBulk]
  | map e => simp [Rows.uptoBulk]
  | held h => simp [Rows.uptoBulk]
theorem bulk_part {H : Type} : ∀ {l : List (DataW H)} {d : DataW H}, d ∈ l → Rows.uptoBulk d ≤ Rows.uptoBulkAll l
  | x :: r, d, h => by
    simp only [Rows.uptoBulkAll]
    rcases List.mem_cons.1 h with e | e
    · subst e; omega
    · have := bulk_part e; omega
theorem bulk_len {H : Type} : ∀ l : List (DataW H), l.length ≤ Rows.uptoBulkAll l
  | [] => Nat.zero_le _
  | x :: r => by
    have := bulk_len r
    have := bulk_one x
    simp only [Rows.uptoBulkAll, List.length_cons]
    omega
theorem bulk_app {H : Type} : ∀ l r : List (DataW H), Rows.uptoBulkAll (l ++ r) = Rows.uptoBulkAll l + Rows.uptoBulkAll r
  | [], r => by simp [Rows.uptoBulkAll]
  | x :: l, r => by
    have := bulk_app l r
    simp only [List.cons_append, Rows.uptoBulkAll]
    omega
/-- what each place of a row holds, added up -/
theorem bulk_sum {H : Type} {α : Type} (D : Nat → DataW H) (f : Nat → List α) : ∀ n, (∀ i, i < n → (f i).length ≤ Rows.uptoBulk (D i)) → ((List.range n).flatMap f).length ≤ Rows.uptoBulkAll ((List.range n).map D)
  | 0, _ => by simp
  | n + 1, h => by
    have h1 := bulk_sum D f n (fun i hi => h i (by omega))
    have h2 := h n (by omega)
    rw [List.range_succ, List.flatMap_append, List.map_append, bulk_app, List.length_append]
    simp only [List.flatMap_cons, List.flatMap_nil, List.append_nil, List.map_cons, List.map_nil, Rows.uptoBulkAll]
    omega
section
variable {H : Type} {enc : TypeId × Value → H} {w : World} {base : Nat} {held : Bool}

theorem open_bytes {fuel : Nat} {cs : List Value} {x : DataW H × List MemPlace} (h : DataW.trod enc Tryz.prog w base (fun _ => true) held fuel 22 cs = some x) :
    ∃ (a : Option Addr) (n cap : Nat) (xs : List UInt8), cs = [.slice a n cap] ∧ xs.length = n ∧ Rc.Rd w a xs ∧ n ≤ cap ∧ cap ≤ 9223372036854775807 ∧ (a = none → cap = 0) := by
  rcases open_ints Tryz.underlying22 Tryz.underlying5 (by kernel_rfl) h with ⟨rfl, _⟩ | ⟨x, l, c, zs, rfl, _, hl, hm, hz, _, hcell, hwz⟩
  · exact ⟨none, 0, 0, [], rfl, rfl, Rc.Rd.nil _ _, by omega, by omega, fun _ => rfl⟩
  · obtain ⟨xs, hxs, hrd⟩ := Rc.bytes_of_ints hl (by simpa using hz) hcell hwz
    exact ⟨some x, l, c, xs, rfl, hxs, hrd, hl, by unfold maxLen at hm; omega, fun h => by simp at h⟩
theorem slice_bulk {t e : TypeId} (ht : Tryz.prog.underlying t = some (.slice e)) {fuel : Nat} {a : Option Addr} {n cap : Nat} {x : DataW H × List MemPlace} (h : DataW.trod enc Tryz.prog w base (fun _ => true) held fuel t [.slice a n cap] = some x) : n ≤ Rows.uptoBulk x.1 := by
  rcases open_slice ht h with ⟨h1, _⟩ | ⟨a', len, cap', m, n', D, Pl, h1, _, _, _, _, rfl, _⟩
  · simp at h1
    omega
  · simp at h1
    obtain ⟨rfl, rfl, rfl⟩ := h1
    have := bulk_len ((List.range n).map D)
    simp only [List.length_map, List.length_range] at this
    simp only [Rows.uptoBulk]
    omega
/-- one image -/
def ImgD (w : World) (p : ImD) : Prop := Rc.Rd w p.1.2.1 p.2 ∧ p.2.length = p.1.2.2.1 ∧ p.1.2.2.1 ≤ 140737488355328 ∧ (p.1.2.1 = none → p.1.2.2.2 = 0)
def ImgN (p : ImD) : Prop := p.1.2.2.1 ≤ p.1.2.2.2 ∧ p.1.2.2.2 ≤ 9223372036854775807
theorem open_img {fuel : Nat} {cs : List Value} {x : DataW H × List MemPlace} (h : DataW.trod enc Tryz.prog w base (fun _ => true) held fuel 57 cs = some x) (hw : Rows.uptoBulk x.1 ≤ 1048576) :
    ∃ p : ImD, cs = [.int .i64 p.1.1, .slice p.1.2.1 p.1.2.2.1 p.1.2.2.2] ∧ ImgD w p ∧ ImgN p := by
  obtain ⟨xs, n, _, rfl, hl, hlen, hf⟩ := DataW.trod_struct Tryz.underlying57 h
  rw [cells57] at hl
  obtain ⟨v0, v1, rfl⟩ := list2 hl
  obtain ⟨y0, y1, rfl⟩ := list2 (show xs.length = 2 from hlen)
  have g0 := hf 0 _ rfl
  have g1 := hf 1 _ rfl
  simp [cells3, cells22] at g0 g1
  obtain ⟨n0, h0, _⟩ := DataW.trod_int Tryz.underlying3 g0
  obtain ⟨a, m, cap, ys, h1, hy, hr, q1, q2, q3⟩ := open_bytes g1
  simp at h0 h1
  subst h0 h1 hy
  have hb := slice_bulk Tryz.underlying22 g1
  simp only [Rows.uptoBulk, Rows.uptoBulkAll, List.map_cons, List.map_nil] at hw
  exact ⟨((n0, a, ys.length, cap), ys), rfl, ⟨hr, rfl, by show ys.length ≤ _; omega, q3⟩, q1, q2⟩
/-- a row of images, as it came in -/
structure ImsA (w : World) (a : Option Addr) (n cap : Nat) (L : List ImD) : Prop where
  len : L.length = n
  cells : CellsI w a (L.map (·.1))
  data : AnyD w L
  caps : ∀ p ∈ L, ImgN p
  size : n ≤ 1048576
  nil : a = none → cap = 0
theorem open_ims {fuel : Nat} {cs : List Value} {x : DataW H × List MemPlace} (h : DataW.trod enc Tryz.prog w base (fun _ => true) held fuel 26 cs = some x) (hw : Rows.uptoBulk x.1 ≤ 1048576) :
    ∃ (a : Option Addr) (n cap : Nat) (L : List ImD), cs = [.slice a n cap] ∧ ImsA w a n cap L := by
  rcases open_slice Tryz.underlying26 h with ⟨rfl, _⟩ | ⟨a, len, cap, m, n, D, Pl, rfl, hb, hl, hm, hmm, rfl, hx⟩
  · exact ⟨none, 0, 0, [], rfl, rfl, fun h => by simp at h, fun p hp => (by cases hp), fun p hp => (by cases hp), by omega, fun _ => rfl⟩
  have hlm : len ≤ m := by rw [hmm]; split <;> omega
  have hbl := bulk_len ((List.range len).map D)
  simp only [List.length_map, List.length_range] at hbl
  simp only [Rows.uptoBulk] at hw
  have each : ∀ i, i < len → ∃ p : ImD, w.cell? (a.add (i * 2)) = some (.int .i64 p.1.1) ∧ w.cell? (a.add (i * 2 + 1)) = some (.slice p.1.2.1 p.1.2.2.1 p.1.2.2.2) ∧ ImgD w p ∧ ImgN p := by
    intro i hi
    obtain ⟨cs', h1, h2⟩ := hx i (by omega)
    rw [cells57] at h1
    obtain ⟨p, rfl, hr, q1⟩ := open_img h2 (by
      have := bulk_part (l := (List.range len).map D) (d := D i) (List.mem_map.2 ⟨i, by simpa using hi, rfl⟩)
      show Rows.uptoBulk (D i) ≤ _
      omega)
    obtain ⟨_, hlen, hcell⟩ := World.cells?_some h1
    have e0 := hcell 0 (by omega)
    have e1 := hcell 1 (by omega)
    rw [add_add] at e0 e1
    exact ⟨p, by simpa using e0, by simpa using e1, hr, q1⟩
  obtain ⟨f, hf⟩ := choose_below ((0, none, 0, 0), []) each
  refine ⟨some a, len, cap, (List.range len).map f, rfl, by simp, fun hp => ?_, fun p hp => ?_, fun p hp => ?_, by omega, fun e => by cases e⟩
  · have hl0 : 0 < len := by simpa using hp
    have h0 := (hf 0 hl0).1
    obtain ⟨b, o, sp⟩ := a
    have hsp : sp = none := by simpa [Addr.add] using World.cell?_spot h0
    subst hsp
    refine ⟨b, o, rfl, fun j hj => ?_⟩
    have hj' : j < len := by simpa using hj
    obtain ⟨g0, g1, _⟩ := hf j hj'
    rw [Addr.add_lit] at g0 g1
    simp only [List.getElem_map, List.getElem_range]
    exact ⟨g0, by rw [Nat.add_assoc]; exact g1⟩
  · obtain ⟨i, hi, rfl⟩ := List.mem_map.1 hp
    exact (hf i (by simpa using hi)).2.2.1
  · obtain ⟨i, hi, rfl⟩ := List.mem_map.1 hp
    exact (hf i (by simpa using hi)).2.2.2
/-- a group, and its images' data -/
abbrev GrD := Gr × List ImD
def GrA (w : World) (g : GrD) : Prop := g.1.is = g.2.map (·.1) ∧ ImsA w g.1.a g.1.is.length g.1.c g.2
theorem open_group {fuel : Nat} {cs : List Value} {x : DataW H × List MemPlace} (h : DataW.trod enc Tryz.prog w base (fun _ => true) held fuel 60 cs = some x) (hw : Rows.uptoBulk x.1 ≤ 1048576) :
    ∃ g : GrD, cs = [.int .i64 g.1.e, .int .i64 g.1.q, .slice g.1.a g.1.is.length g.1.c] ∧ GrA w g ∧ g.1.is.length ≤ Rows.uptoBulk x.1 := by
  obtain ⟨xs, n, _, rfl, hl, hlen, hf⟩ := DataW.trod_struct Tryz.underlying60 h
  rw [cells60] at hl
  obtain ⟨v0, v1, v2, rfl⟩ := list3 hl
  obtain ⟨y0, y1, y2, rfl⟩ := list3 (show xs.length = 3 from hlen)
  have g0 := hf 0 _ rfl
  have g1 := hf 1 _ rfl
  have g2 := hf 2 _ rfl
  simp [cells3, cells26] at g0 g1 g2
  obtain ⟨n0, h0, _⟩ := DataW.trod_int Tryz.underlying3 g0
  obtain ⟨n1, h1, _⟩ := DataW.trod_int Tryz.underlying3 g1
  obtain ⟨a, m, cap, L, h2, q⟩ := open_ims g2 (by simp only [Rows.uptoBulk, Rows.uptoBulkAll, List.map_cons, List.map_nil] at hw; omega)
  simp at h0 h1 h2
  subst h0 h1 h2
  have hm : m = (L.map (·.1)).length := by rw [List.length_map, q.len]
  subst hm
  have hb := slice_bulk Tryz.underlying26 g2
  exact ⟨(⟨n0, n1, a, cap, L.map (·.1)⟩, L), rfl, ⟨rfl, q⟩, by simp only [Rows.uptoBulk, Rows.uptoBulkAll, List.map_cons, List.map_nil]; show (L.map (·.1)).length ≤ _; omega⟩
/-- groups, as they came in -/
structure GrsA (w : World) (a : Option Addr) (n : Nat) (G : List GrD) : Prop where
  len : G.length = n
  cells : CellsG w a (G.map (·.1))
  nils : ∀ g ∈ G.map (·.1), g.a = none → g.c = 0
  tot : (allIs (G.map (·.1))).length ≤ 1048576
  is : allIs (G.map (·.1)) = (G.flatMap (·.2)).map (·.1)
  data : AnyD w (G.flatMap (·.2))
theorem allIs_all (w : World) : ∀ G : List GrD, (∀ g ∈ G, GrA w g) → allIs (G.map (·.1)) = (G.flatMap (·.2)).map (·.1)
  | [], _ => rfl
  | g :: r, h => by
    have := allIs_all w r (fun g hg => h g (List.mem_cons_of_mem _ hg))
    unfold allIs at this ⊢
    rw [List.map_cons, List.flatMap_cons, List.flatMap_cons, List.map_append, this, (h g (List.mem_cons_self ..)).1]
theorem open_groups {fuel : Nat} {cs : List Value} {x : DataW H × List MemPlace} (h : DataW.trod enc Tryz.prog w base (fun _ => true) held fuel 25 cs = some x) (hw : Rows.uptoBulk x.1 ≤ 1048576) :
    ∃ (a : Option Addr) (n cap : Nat) (G : List GrD), cs = [.slice a n cap] ∧ GrsA w a n G ∧ n ≤ 1048576 := by
  rcases open_slice Tryz.underlying25 h with ⟨rfl, _⟩ | ⟨a, len, cap, m, n, D, Pl, rfl, hb, hl, hm, hmm, rfl, hx⟩
  · exact ⟨none, 0, 0, [], rfl, ⟨rfl, fun h => by simp at h, fun g hg => (by cases hg), by simp [allIs], rfl, fun p hp => (by cases hp)⟩, by omega⟩
  have hlm : len ≤ m := by rw [hmm]; split <;> omega
  have hbl := bulk_len ((List.range len).map D)
  simp only [List.length_map, List.length_range] at hbl
  simp only [Rows.uptoBulk] at hw
  have each : ∀ i, i < len → ∃ g : GrD, w.cell? (a.add (i * 3)) = some (.int .i64 g.1.e) ∧ w.cell? (a.add (i * 3 + 1)) = some (.int .i64 g.1.q) ∧ w.cell? (a.add (i * 3 + 2)) = some (.slice g.1.a g.1.is.length g.1.c) ∧ GrA w g ∧ g.1.is.length ≤ Rows.uptoBulk (D i) := by
    intro i hi
    obtain ⟨cs', h1, h2⟩ := hx i (by omega)
    rw [cells60] at h1
    obtain ⟨g, rfl, hr, q1⟩ := open_group h2 (by
      have := bulk_part (l := (List.range len).map D) (d := D i) (List.mem_map.2 ⟨i, by simpa using hi, rfl⟩)
      show Rows.uptoBulk (D i) ≤ _
      omega)
    obtain ⟨_, hlen, hcell⟩ := World.cells?_some h1
    have e0 := hcell 0 (by omega)
    have e1 := hcell 1 (by omega)
    have e2 := hcell 2 (by omega)
    rw [add_add] at e0 e1 e2
    exact ⟨g, by simpa using e0, by simpa using e1, by simpa using e2, hr, q1⟩
  obtain ⟨f, hf⟩ := choose_below (⟨0, 0, none, 0, []⟩, []) each
  have hin : ∀ g ∈ (List.range len).map f, GrA w g := fun g hg => by
    obtain ⟨i, hi, rfl⟩ := List.mem_map.1 hg
    exact (hf i (by simpa using hi)).2.2.2.1
  have htot := bulk_sum D (fun i => (f i).1.is) len (fun i hi => (hf i hi).2.2.2.2)
  refine ⟨some a, len, cap, (List.range len).map f, rfl, ⟨by simp, fun hp => ?_, fun g hg => ?_, ?_, allIs_all w _ hin, fun p hp => ?_⟩, by omega⟩
  · have hl0 : 0 < len := by simpa using hp
    have h0 := (hf 0 hl0).1
    obtain ⟨b, o, sp⟩ := a
    have hsp : sp = none := by simpa [Addr.add] using World.cell?_spot h0
    subst hsp
    refine ⟨b, o, rfl, fun j hj => ?_⟩
    have hj' : j < len := by simpa using hj
    obtain ⟨g0, g1, g2, g3, g4⟩ := hf j hj'
    rw [Addr.add_lit] at g0 g1 g2
    simp only [List.getElem_map, List.getElem_range]
    refine ⟨g0, by rw [Nat.add_assoc]; exact g1, by rw [Nat.add_assoc]; exact g2, ?_, ?_⟩
    · have := g3.2.cells
      rw [← g3.1] at this
      exact this
    · have := g3.2.size
      omega
  · obtain ⟨q, hq, rfl⟩ := List.mem_map.1 hg
    exact (hin q hq).2.nil
  · unfold allIs
    rw [List.map_map, List.flatMap_map]
    have e : (fun i => (((fun x : GrD => x.1) ∘ f) i).is) = fun i => (f i).1.is := rfl
    rw [e]
    omega
  · obtain ⟨q, hq, hp'⟩ := List.mem_flatMap.1 hp
    exact (hin q hq).2.data p hp'
theorem open_layout {fuel : Nat} {cs : List Value} {x : DataW H × List MemPlace} (h : DataW.trod enc Tryz.prog w base (fun _ => true) held fuel 24 cs = some x) :
    ∃ a b c d e f g : Int, cs = [.int .i64 a, .int .i64 b, .int .i64 c, .int .i64 d, .int .i64 e, .int .i64 f, .int .i64 g] := by
  obtain ⟨xs, n, _, _, hl, hlen, hf⟩ := DataW.trod_struct Tryz.underlying24 h
  rw [cells24] at hl
  obtain ⟨v0, v1, v2, v3, v4, v5, v6, rfl⟩ := list7 hl
  obtain ⟨y0, y1, y2, y3, y4, y5, y6, rfl⟩ := list7 (show xs.length = 7 from hlen)
  have g0 := hf 0 _ rfl
  have g1 := hf 1 _ rfl
  have g2 := hf 2 _ rfl
  have g3 := hf 3 _ rfl
  have g4 := hf 4 _ rfl
  have g5 := hf 5 _ rfl
  have g6 := hf 6 _ rfl
  simp [cells3] at g0 g1 g2 g3 g4 g5 g6
  obtain ⟨n0, h0, _⟩ := DataW.trod_int Tryz.underlying3 g0
  obtain ⟨n1, h1, _⟩ := DataW.trod_int Tryz.underlying3 g1
  obtain ⟨n2, h2, _⟩ := DataW.trod_int Tryz.underlying3 g2
  obtain ⟨n3, h3, _⟩ := DataW.trod_int Tryz.underlying3 g3
  obtain ⟨n4, h4, _⟩ := DataW.trod_int Tryz.underlying3 g4
  obtain ⟨n5, h5, _⟩ := DataW.trod_int Tryz.underlying3 g5
  obtain ⟨n6, h6, _⟩ := DataW.trod_int Tryz.underlying3 g6
  simp at h0 h1 h2 h3 h4 h5 h6
  subst h0 h1 h2 h3 h4 h5 h6
  exact ⟨n0, n1, n2, n3, n4, n5, n6, rfl⟩
theorem open_super {fuel : Nat} {cs : List Value} {x : DataW H × List MemPlace} (h : DataW.trod enc Tryz.prog w base (fun _ => true) held fuel 28 cs = some x) :
    ∃ b e q t : Int, cs = [.int .i64 b, .int .i64 e, .int .i64 q, .int .i64 t] := by
  obtain ⟨xs, n, _, _, hl, hlen, hf⟩ := DataW.trod_struct Tryz.underlying28 h
  rw [cells28] at hl
  obtain ⟨v0, v1, v2, v3, rfl⟩ := list4 hl
  obtain ⟨y0, y1, y2, y3, rfl⟩ := list4 (show xs.length = 4 from hlen)
  have g0 := hf 0 _ rfl
  have g1 := hf 1 _ rfl
  have g2 := hf 2 _ rfl
  have g3 := hf 3 _ rfl
  simp [cells3] at g0 g1 g2 g3
  obtain ⟨n0, h0, _⟩ := DataW.trod_int Tryz.underlying3 g0
  obtain ⟨n1, h1, _⟩ := DataW.trod_int Tryz.underlying3 g1
  obtain ⟨n2, h2, _⟩ := DataW.trod_int Tryz.underlying3 g2
  obtain ⟨n3, h3, _⟩ := DataW.trod_int Tryz.underlying3 g3
  simp at h0 h1 h2 h3
  subst h0 h1 h2 h3
  exact ⟨n0, n1, n2, n3, rfl⟩
end
end Go.Proofs.YtdkaacjeogifdaaGreat.H

/-
  The document's own Right.
-/
namespace Go.Proofs.YtdkaacjeogifdaaGreat.H
open Go.RowKit
open Go.Proofs.YtdkaacjeogifdaaGreat.Dk (Box)

set_option maxHeartbeats 1000000 in
theorem right_good (nb : Nat) (h64 : 64 ≤ nb) (h512 : nb ≤ 512) (w : World) (l1 l2 l3 l4 l5 l6 : Int) :
    Calls Tryz.prog 32 #[.agg #[.int .i64 nb, .int .i64 l1, .int .i64 l2, .int .i64 l3, .int .i64 l4, .int .i64 l5, .int .i64 l6]] w fun r w' => r = .returned (.bool (La.same7 nb 2 (La.lgs nb) (2 + (La.lgs nb : Int)) (3 + (La.lgs nb : Int)) ((nb : Int) / 16) (3 + (La.lgs nb : Int) + (nb : Int) / 16) nb l1 l2 l3 l4 l5 l6)) ∧ Below w.heap.size w w' := by
  have al := (Below.refl w.heap.size w).alloc (Nat.le_refl _) (.cells #[.int .i64 nb, .int .i64 l1, .int .i64 l2, .int .i64 l3, .int .i64 l4, .int .i64 l5, .int .i64 l6] 24)
  have x := Box.new w #[.int .i64 nb, .int .i64 l1, .int .i64 l2, .int .i64 l3, .int .i64 l4, .int .i64 l5, .int .i64 l6] 24
  have c0 := x.cell 0
  simp only [List.getElem?_toArray, List.getElem?_cons_zero] at c0
  have cO := La.ref_good nb (w.alloc (.cells #[.int .i64 nb, .int .i64 l1, .int .i64 l2, .int .i64 l3, .int .i64 l4, .int .i64 l5, .int .i64 l6] 24)) h64 h512
  have hq := fun u => La.eql23 u nb 2 (La.lgs nb) (2 + (La.lgs nb : Int)) (3 + (La.lgs nb : Int)) ((nb : Int) / 16) (3 + (La.lgs nb : Int) + (nb : Int) / 16) nb l1 l2 l3 l4 l5 l6
  unfold La.layA at cO
  generalize La.same7 nb 2 (La.lgs nb) (2 + (La.lgs nb : Int)) (3 + (La.lgs nb : Int)) ((nb : Int) / 16) (3 + (La.lgs nb : Int) + (nb : Int) / 16) nb l1 l2 l3 l4 l5 l6 = R at hq ⊢
  generalize (2 + (La.lgs nb : Int)) = m3 at cO hq
  generalize (3 + (La.lgs nb : Int) + (nb : Int) / 16) = m6 at cO hq
  generalize (3 + (La.lgs nb : Int)) = m4 at cO hq
  generalize ((nb : Int) / 16) = m5 at cO hq
  generalize (La.lgs nb : Int) = m2 at cO hq
  go_enter Tryz.func32, Tryz.ntmps32
  go_wp2_with fail
  refine Calls.mono cO ?_
  rintro r u1 ⟨rfl, b1⟩
  have B1 := al.trans (b1.mono al.size)
  have x1 := (x.below b1).alloc (.cells #[.int .i64 nb, .int .i64 2, .int .i64 m2, .int .i64 m3, .int .i64 m4, .int .i64 m5, .int .i64 m6] 24)
  have y1 := Box.new u1 #[.int .i64 nb, .int .i64 2, .int .i64 m2, .int .i64 m3, .int .i64 m4, .int .i64 m5, .int .i64 m6] 24
  have B2 := B1.alloc B1.size (.cells #[.int .i64 nb, .int .i64 2, .int .i64 m2, .int .i64 m3, .int .i64 m4, .int .i64 m5, .int .i64 m6] 24)
  have c0 := x1.cell 0
  have c1 := x1.cell 1
  have c2 := x1.cell 2
  have c3 := x1.cell 3
  have c4 := x1.cell 4
  have c5 := x1.cell 5
  have c6 := x1.cell 6
  have d0 := y1.cell 0
  have d1 := y1.cell 1
  have d2 := y1.cell 2
  have d3 := y1.cell 3
  have d4 := y1.cell 4
  have d5 := y1.cell 5
  have d6 := y1.cell 6
  simp only [List.getElem?_toArray, List.getElem?_cons_zero, List.getElem?_cons_succ] at c0 c1 c2 c3 c4 c5 c6 d0 d1 d2 d3 d4 d5 d6
  clear cO b1 x al x1 y1 B1
  go_wp2_with fail
  go_ret
  exact ⟨rfl, B2⟩
theorem right_bad (l0 l1 l2 l3 l4 l5 l6 : Int) (h : ¬(64 ≤ l0 ∧ l0 ≤ 512)) (w : World) :
    Calls Tryz.prog 32 #[.agg #[.int .i64 l0, .int .i64 l1, .int .i64 l2, .int .i64 l3, .int .i64 l4, .int .i64 l5, .int .i64 l6]] w fun r w' => r = .returned (.bool false) ∧ Below w.heap.size w w' := by
  have al := (Below.refl w.heap.size w).alloc (Nat.le_refl _) (.cells #[.int .i64 l0, .int .i64 l1, .int .i64 l2, .int .i64 l3, .int .i64 l4, .int .i64 l5, .int .i64 l6] 24)
  have x := Box.new w #[.int .i64 l0, .int .i64 l1, .int .i64 l2, .int .i64 l3, .int .i64 l4, .int .i64 l5, .int .i64 l6] 24
  have c0 := x.cell 0
  simp only [List.getElem?_toArray, List.getElem?_cons_zero] at c0
  have cO := La.ref_bad l0 (w.alloc (.cells #[.int .i64 l0, .int .i64 l1, .int .i64 l2, .int .i64 l3, .int .i64 l4, .int .i64 l5, .int .i64 l6] 24)) h
  unfold La.noneA at cO
  clear h x
  go_enter Tryz.func32, Tryz.ntmps32
  go_wp2_with fail
  refine Calls.mono cO ?_
  rintro r u1 ⟨rfl, b1⟩
  have B1 := al.trans (b1.mono al.size)
  have B2 := B1.alloc B1.size (.cells #[.int .i64 0, .int .i64 0, .int .i64 0, .int .i64 0, .int .i64 0, .int .i64 0, .int .i64 0] 24)
  clear cO b1 c0 al
  go_wp2_with fail
  go_ret
  exact ⟨rfl, B2⟩
end Go.Proofs.YtdkaacjeogifdaaGreat.H

/-
  CopyImages: images in memory of their own, whatever their lengths.
-/
namespace Go.Proofs.YtdkaacjeogifdaaGreat.Rc
open Go.RowKit

theorem cap_le {c : Nat} (h : c ≤ maxLen) : c ≤ 9223372036854775807 := by unfold maxLen at h; omega
theorem owns_cells {w : World} {B e size n m : Nat} {a : Option Addr} {c : Nat} {xs : List Value} (ho : w.ownsRow B e size (.slice a n c) m xs) (h0 : 0 < m) :
    ∃ g, a = some ⟨g, 0, none⟩ ∧ B ≤ g ∧ (∃ cur, Box w g cur e) ∧ ∀ j, j < m * size → w.cell? ⟨g, j, none⟩ = xs[j]? := by
  rcases ho.2 with ⟨h1, h2⟩ | ⟨g, cap, cur, h1, hBg, hg2, hnc, hcm, hcs, ht⟩
  · omega
  · injection h1 with h1
    subst h1
    have hB : Box w g cur e := hg2
    refine ⟨g, rfl, hBg, ⟨cur, hB⟩, fun j hj => ?_⟩
    rw [hB.cell j, ← ht, List.getElem?_take, if_pos hj]
    simp


/-- an image that was copied: its data are v -/
structure CP where
  b : Int
  xs : List UInt8
  v : Value
def cpC (ps : List CP) : List Value := ps.flatMap fun p => [.int .i64 p.b, p.v]
theorem cpC_length (ps : List CP) : (cpC ps).length = ps.length * 2 := by
  unfold cpC
  induction ps with
  | nil => rfl
  | cons p ps ih => simp [ih]; omega
theorem cpC_at (ps : List CP) (i : Nat) (h : i < ps.length) : (cpC ps)[i * 2]? = some (.int .i64 ps[i].b) ∧ (cpC ps)[i * 2 + 1]? = some ps[i].v := by
  induction ps generalizing i with
  | nil => simp at h
  | cons p ps ih =>
    cases i with
    | zero => exact ⟨rfl, rfl⟩
    | succ i =>
      obtain ⟨h1, h2⟩ := ih i (by simpa using h)
      have e : (cpC (p :: ps)) = .int .i64 p.b :: p.v :: cpC ps := rfl
      rw [e, show (i + 1) * 2 = i * 2 + 1 + 1 by omega]
      simp only [List.getElem?_cons_succ]
      exact ⟨h1, h2⟩
structure CpJ (B : Nat) (W : World) (ps : List CP) : Prop where
  rows : ∀ p ∈ ps, W.ownsRow B 5 1 p.v p.xs.length (bcs p.xs)
  apart : ps.Pairwise fun p q => ∀ g, p.v.ownBlock = some g → q.v.ownBlock ≠ some g
theorem CpJ.below {B : Nat} {W W' : World} {ps : List CP} (h : CpJ B W ps) (hb : Below W.heap.size W W') : CpJ B W' ps := ⟨fun p hp => owns_below (h.rows p hp) hb, h.apart⟩
theorem CpJ.grown {B base e size n : Nat} {W W' : World} {ps : List CP} {v : Value} {xs : List Value} (h : CpJ B W ps) (ho : W.ownsRow base e size v n xs) (he : (5 : TypeId) ≠ e) (hg : W.grownBy W' v.ownBlock) : CpJ B W' ps :=
  ⟨fun p hp => owns_grown (h.rows p hp) hg (fun g h1 h2 => by
    obtain ⟨_, c1, b1⟩ := owns_block (h.rows p hp) g h1
    obtain ⟨_, c2, b2⟩ := owns_block ho g h2
    exact Box.ne b1 b2 he rfl), h.apart⟩
theorem CpJ.snoc {B : Nat} {W W' : World} {ps : List CP} (h : CpJ B W ps) (hb : Below W.heap.size W W') (p : CP) (hp : W'.ownsRow W.heap.size 5 1 p.v p.xs.length (bcs p.xs)) (hB : B ≤ W.heap.size) : CpJ B W' (ps ++ [p]) := by
  refine ⟨fun q hq => ?_, ?_⟩
  · rcases List.mem_append.1 hq with hq | hq
    · exact owns_below (h.rows q hq) hb
    · rw [List.mem_singleton.1 hq]
      exact owns_base hp hB
  · rw [List.pairwise_append]
    refine ⟨h.apart, List.pairwise_singleton _ _, fun q hq r hr g h1 h2 => ?_⟩
    rw [List.mem_singleton.1 hr] at h2
    obtain ⟨_, c1, b1⟩ := owns_block (h.rows q hq) g h1
    obtain ⟨k1, _⟩ := owns_block hp g h2
    have := b1.lt
    omega
theorem owns_nil {w : World} {B n : Nat} {v : Value} {xs : List Value} {a : Option Addr} {m c : Nat} (h : w.ownsRow B 5 1 v n xs) (hv : v = .slice a m c) : a = none → c = 0 := by
  intro ha
  rcases h.2 with ⟨h1, _⟩ | ⟨g, cap, cur, h1, _⟩
  · rw [hv] at h1
    simp at h1
    exact h1.2.2
  · rw [hv, ha] at h1
    simp at h1
theorem imgs_cp {w : World} {B m : Nat} {a : Option Addr} {n c : Nat} {ps : List CP} (ho : w.ownsRow B 57 2 (.slice a n c) m (cpC ps)) (hj : CpJ B w ps) (hm : ps.length = m) : Imgs w a (ps.map fun p => (p.b, p.xs)) := fun h0 => by
  have hq : 0 < ps.length := by simpa using h0
  obtain ⟨g, rfl, _, _, hc⟩ := owns_cells ho (by omega)
  refine ⟨g, 0, rfl, fun j hjl => ?_⟩
  have hjq : j < ps.length := by simpa using hjl
  obtain ⟨ax, cx, hv, _, h2, h3, h4, h5⟩ := owns_rd (hj.rows ps[j] (List.getElem_mem hjq))
  have hn := owns_nil (hj.rows ps[j] (List.getElem_mem hjq)) hv
  obtain ⟨k0, k1⟩ := cpC_at ps j hjq
  rw [List.getElem_map]
  refine ⟨?_, ax, cx, ?_, h2, cap_le h3, hn, h4⟩
  · show w.cell? ⟨g, 0 + j * 2, none⟩ = _
    rw [Nat.zero_add, hc _ (by omega), k0]
  · show w.cell? ⟨g, 0 + j * 2 + 1, none⟩ = _
    rw [Nat.zero_add, hc _ (by omega), k1, hv]

set_option maxRecDepth 100000 in
set_option maxHeartbeats 4000000 in
theorem copyImages_at (a : Option Addr) (n cap : Nat) (is : List (Int × List UInt8)) (w : World) (hl : is.length = n) (hn : n * 32 ≤ 140737488355328) (hI : Imgs w a is) (h47 : ∀ i ∈ is, i.2.length ≤ 140737488355328) :
    Calls Tryz.prog 14 #[.slice a n cap] w fun r w' => ∃ a' c' ps, r = .returned (.slice a' n c') ∧ w'.ownsRow w.heap.size 57 2 (.slice a' n c') n (cpC ps) ∧ CpJ w.heap.size w' ps ∧ ps.map (fun p => (p.b, p.xs)) = is ∧ Below w.heap.size w w' := by
  obtain ⟨i0, hi, hz0, hz1, hz2⟩ := info_parts info38
  have HL : Hid (is.length = n) := hl
  have HII : Hid (Imgs w a is) := hI
  have H47 : Hid (∀ i ∈ is, i.2.length ≤ 140737488355328) := h47
  clear hl hI h47
  go_enter Tryz.func14, Tryz.ntmps14
  go_wp2_with fail
  go_loopw [3, 4] (fun v i u => ∃ (k : Nat) (ps : List CP), k ≤ n ∧ i = .int .i64 (k : Int) ∧ u.ownsRow w.heap.size 57 2 v k (cpC ps) ∧ CpJ w.heap.size u ps ∧ ps.map (fun p => (p.b, p.xs)) = is.take k ∧ Below w.heap.size w u) (fun _ i _ => n - (intOf i).toNat)
  case atStart => exact ⟨0, [], Nat.zero_le _, rfl, World.ownsRow_nil _ _ _ _, ⟨fun p hp => (by cases hp), List.Pairwise.nil⟩, by simp, Below.refl _ _⟩
  case round =>
    obtain ⟨k, ps, hk, rfl, hown, hJ, hps, B⟩ := hrel
    have HPS : Hid (ps.map (fun p => (p.b, p.xs)) = is.take k) := hps
    have HJ : Hid (CpJ w.heap.size wr ps) := hJ
    have HOWN : Hid (wr.ownsRow w.heap.size 57 2 u3 k (cpC ps)) := hown
    clear hps hJ
    obtain ⟨av, cv, rfl⟩ := owns_shape hown
    by_cases hlt : k < n
    · have k1 : k < is.length := by rw [HL.out]; exact hlt
      obtain ⟨b, o, rfl, hc⟩ := HII.out (by omega)
      obtain ⟨g0, x, cx, g1, g2, g3, g4, g5⟩ := hc k k1
      have lb : b < w.heap.size := block_lt_of_cell g1
      have h47 := H47.out _ (List.getElem_mem k1)
      have hstep : Hid (is.take (k + 1) = is.take k ++ [is[k]'k1]) := List.take_succ_eq_append_getElem k1
      generalize (is[k]'k1) = X at g0 g1 g2 g5 h47 hstep
      obtain ⟨bx, xs⟩ := X
      dsimp only at g0 g1 g2 g5 h47
      have HS : Hid (∀ u : World, Below w.heap.size w u → u.cell? ⟨b, o + k * 2, none⟩ = some (.int .i64 bx) ∧ u.cell? ⟨b, o + k * 2 + 1, none⟩ = some (.slice x xs.length cx) ∧ Hid (Below w.heap.size w u)) := fun u hu =>
        ⟨(hu.cell (p := ⟨b, o + k * 2, none⟩) lb).trans g0, (hu.cell (p := ⟨b, o + k * 2 + 1, none⟩) lb).trans g1, hu⟩
      have cC := copyBytes_at cx xs.length x xs wr.drew rfl h47 ((g5.below B (Nat.le_refl _)).below ((Below.refl wr.heap.size wr).drew) (Nat.le_refl _)) g4
      have hk0 : (0 : Int) ≤ (k : Int) := by omega
      have hki : (k : Int) < (n : Int) := by omega
      clear hc g0 g1 g2 g3 g4 g5 lb hown
      go_wp2_with fail
      go_region_held3 (fun u => u.cell? ⟨b, o + k * 2, none⟩ = some (.int .i64 bx) ∧ u.cell? ⟨b, o + k * 2 + 1, none⟩ = some (.slice x xs.length cx) ∧ Hid (Below w.heap.size w u))
        (first | with_reducible exact HS.out _ B.drew | with_reducible exact HS.out _ B1 | with_reducible exact HS.out _ B2 | with_reducible exact HS.out _ (B1.alloc B1.size _))
        (first
          | (go_at_call 33; refine Calls.mono cC ?_; rintro r W ⟨v, rfl, hv, bW⟩
             obtain ⟨ax, cz, rfl⟩ := owns_shape hv
             have J2 : Hid (CpJ w.heap.size W (ps ++ [⟨bx, xs, .slice ax xs.length cz⟩])) := ((HJ.out.below ((Below.refl wr.heap.size wr).drew)).snoc bW ⟨bx, xs, .slice ax xs.length cz⟩ hv B.size)
             have O2 : Hid (W.ownsRow w.heap.size 57 2 (.slice av k cv) k (cpC ps)) := owns_below (owns_below HOWN.out ((Below.refl wr.heap.size wr).drew)) bW
             have B1 := B.drew.trans (bW.mono B.size)
             clear hv bW cC B)
          | ((refine step_append_lies _ (by rfl) _ _ _ (by rfl) w.heap.size 57 i0 _ 2 32 Tryz.underlying26 hi hz0 hz1 hz2 rfl (by omega) (.slice av k cv) k (cpC ps) (by rfl) (owns_below O2.out ((Below.refl _ W).alloc (Nat.le_refl _) _))
                ⟨W.heap.size, 0, none⟩ 1 1 [.int .i64 bx, .slice ax xs.length cz] (by rfl) (by rfl) (World.news_of_block (cs := #[.int .i64 bx, .slice ax xs.length cz]) (t := 57) (fr := (0, 0)) (heap_alloc_new W _)) (by intro u hu; simp at hu; rcases hu with rfl | rfl <;> rfl)
                (by omega) (by unfold maxLen; omega) (by omega) (by simp; exact Nat.le_succ_of_le B1.size) (W.heap.size + 1) (by simp) ?_)
             intro gg gc w1 hown1 hgrow hat hlt1
             have B2 := (B1.alloc B1.size (.cells #[.int .i64 bx, .slice ax xs.length cz] 57)).grown hgrow (by simp; exact Nat.le_succ_of_le B1.size) (fun j e => (owns_block O2.out j e).1)
             have J3 : Hid (CpJ w.heap.size w1 (ps ++ [⟨bx, xs, .slice ax xs.length cz⟩])) := (J2.out.below ((Below.refl _ W).alloc (Nat.le_refl _) (.cells #[.int .i64 bx, .slice ax xs.length cz] 57))).grown (owns_below O2.out ((Below.refl _ W).alloc (Nat.le_refl _) _)) (by decide) hgrow
             clear hgrow hat hlt1))
      have O5 : Hid (w1.ownsRow w.heap.size 57 2 (.slice (some ⟨gg, 0, none⟩) (k + 1) gc) (k + 1) (cpC (ps ++ [⟨bx, xs, .slice ax xs.length cz⟩]))) := by
        have e : cpC (ps ++ [⟨bx, xs, .slice ax xs.length cz⟩]) = cpC ps ++ [.int .i64 bx, .slice ax xs.length cz] := by simp [cpC]
        rw [e]
        exact hown1
      clear hown1 J2 O2 B1
      go_wp2_with fail
      go_roundw
      case rel => exact ⟨k + 1, _, by omega, by push_cast; rfl, O5.out, J3.out, by rw [List.map_append, HPS.out, hstep.out]; rfl, B2⟩
      case measure => simp [intOf]; omega
    · have hke : k = n := by omega
      rw [hke] at HOWN HPS ⊢
      clear hke hlt hk hown
      go_wp2_with fail
      go_ret
      exact ⟨_, _, ps, rfl, HOWN.out, HJ.out, by rw [HPS.out]; exact List.take_of_length_le (by rw [HL.out]; omega), B⟩
end Go.Proofs.YtdkaacjeogifdaaGreat.Rc

/-
  The last image of each block, block by block.
-/
namespace Go.Proofs.YtdkaacjeogifdaaGreat.H
open Go.RowKit
/-- a fold over images none of which is of block k -/
theorem lastD_skip (M : List (Int × List UInt8)) (k : Int) (o : Option (List UInt8)) (h : ∀ p ∈ M, p.1 ≠ k) : M.foldl (fun o p => if p.1 = k then some p.2 else o) o = o := by
  induction M generalizing o with
  | nil => rfl
  | cons p r ih =>
    rw [List.foldl_cons, if_neg (h p (List.mem_cons_self ..))]
    exact ih o (fun q hq => h q (List.mem_cons_of_mem _ hq))
theorem lastD_none {M : List (Int × List UInt8)} {k : Int} (h : ∀ p ∈ M, p.1 ≠ k) : lastD M k = none := lastD_skip M k none h
theorem lastD_found {M : List (Int × List UInt8)} {k : Int} {j : Nat} (hj : j < M.length) (he : M[j].1 = k) (h : ∀ i (hi : i < M.length), j < i → M[i].1 ≠ k) : lastD M k = some M[j].2 := by
  have hs : M.take j ++ (M[j] :: M.drop (j + 1)) = M := by
    rw [← List.drop_eq_getElem_cons hj, List.take_append_drop]
  have hd : (M.drop (j + 1)).foldl (fun o p => if p.1 = k then some p.2 else o) (some M[j].2) = some M[j].2 := lastD_skip _ _ _ (fun p hp => by
    obtain ⟨i, hi, rfl⟩ := List.getElem_of_mem hp
    rw [List.getElem_drop]
    rw [List.length_drop] at hi
    exact h (j + 1 + i) (by omega) (by omega))
  have hx : (M.take j ++ (M[j] :: M.drop (j + 1))).foldl (fun o p => if p.1 = k then some p.2 else o) none = some M[j].2 := by
    rw [List.foldl_append, List.foldl_cons, if_pos he]
    exact hd
  generalize M[j].2 = y at hx ⊢
  rw [hs] at hx
  exact hx
/-- the last image of each of t blocks from lo on -/
def outD (M : List (Int × List UInt8)) (lo : Int) (t : Nat) : List (Int × List UInt8) := (List.range t).filterMap fun s : Nat => (lastD M (lo + (s : Int))).map fun x => (lo + (s : Int), x)
theorem outD_some {M : List (Int × List UInt8)} {lo : Int} {t : Nat} {x : List UInt8} (h : lastD M (lo + (t : Int)) = some x) : outD M lo (t + 1) = outD M lo t ++ [(lo + (t : Int), x)] := by
  simp [outD, List.range_succ, h]
theorem outD_none {M : List (Int × List UInt8)} {lo : Int} {t : Nat} (h : lastD M (lo + (t : Int)) = none) : outD M lo (t + 1) = outD M lo t := by
  simp [outD, List.range_succ, h]
theorem outD_len (M : List (Int × List UInt8)) (lo : Int) (t : Nat) : (outD M lo t).length ≤ t := by
  have := List.length_filterMap_le (fun s : Nat => (lastD M (lo + (s : Int))).map fun x => (lo + (s : Int), x)) (List.range t)
  simpa [outD] using this
theorem pairwise_fm {f : Nat → Option (Int × List UInt8)} {lo : Int} (hf : ∀ s p, f s = some p → p.1 = lo + (s : Int)) : ∀ t, ((List.range t).filterMap f).Pairwise (fun a b => a.1 < b.1) ∧ ∀ p ∈ (List.range t).filterMap f, p.1 < lo + (t : Int)
  | 0 => ⟨by simp, fun p hp => by simp at hp⟩
  | t + 1 => by
    obtain ⟨h1, h2⟩ := pairwise_fm hf t
    rw [List.range_succ, List.filterMap_append]
    cases e : f t with
    | none =>
      simp only [List.filterMap_cons, e, List.filterMap_nil, List.append_nil]
      exact ⟨h1, fun p hp => by have := h2 p hp; omega⟩
    | some q =>
      have hq := hf t q e
      simp only [List.filterMap_cons, e, List.filterMap_nil]
      refine ⟨List.pairwise_append.2 ⟨h1, List.pairwise_singleton _ _, fun a ha b hb => ?_⟩, fun p hp => ?_⟩
      · simp at hb
        subst hb
        have := h2 a ha
        omega
      · rcases List.mem_append.1 hp with hp | hp
        · have := h2 p hp; omega
        · simp at hp; subst hp; omega
/-- both tell the same -/
theorem outD_keys {M : List (Int × List UInt8)} {lo : Int} {t : Nat} (hM : ∀ p ∈ M, lo ≤ p.1 ∧ p.1 < lo + (t : Int)) : ∃ ks, KeysOf M ks ∧ outD M lo t = ks.map fun k => (k, datD M k) := by
  have hf : ∀ s p, (fun s : Nat => (lastD M (lo + (s : Int))).map fun x => (lo + (s : Int), x)) s = some p → p.1 = lo + (s : Int) := fun s p h => by
    simp only [Option.map_eq_some_iff] at h
    obtain ⟨x, _, rfl⟩ := h
    rfl
  refine ⟨(outD M lo t).map (·.1), ⟨List.pairwise_map.2 (pairwise_fm hf t).1, fun x => ?_⟩, ?_⟩
  · constructor
    · intro hx
      obtain ⟨p, hp, rfl⟩ := List.mem_map.1 hx
      obtain ⟨s, _, hs⟩ := List.mem_filterMap.1 hp
      simp only [Option.map_eq_some_iff] at hs
      obtain ⟨y, hy, rfl⟩ := hs
      show (lastD M (lo + (s : Int))).isSome = true
      rw [hy]
      rfl
    · intro hx
      obtain ⟨y, hy⟩ := Option.isSome_iff_exists.1 hx
      have hm : ∃ p ∈ M, p.1 = x := by
        rcases Classical.em (∃ p ∈ M, p.1 = x) with h | h
        · exact h
        · have := lastD_none (M := M) (k := x) (fun p hp e => h ⟨p, hp, e⟩)
          rw [this] at hy
          cases hy
      obtain ⟨p, hp, rfl⟩ := hm
      have := hM p hp
      refine List.mem_map.2 ⟨(p.1, y), List.mem_filterMap.2 ⟨(p.1 - lo).toNat, by simp; omega, ?_⟩, rfl⟩
      rw [show lo + (((p.1 - lo).toNat : Nat) : Int) = p.1 by omega, hy]
      rfl
  · rw [List.map_map]
    refine (List.map_id _).symm.trans (List.map_congr_left fun p hp => ?_)
    obtain ⟨s, _, hs⟩ := List.mem_filterMap.1 hp
    simp only [Option.map_eq_some_iff] at hs
    obtain ⟨y, hy, rfl⟩ := hs
    show (lo + (s : Int), y) = (lo + (s : Int), datD M (lo + (s : Int)))
    unfold datD
    rw [hy]
    rfl
end Go.Proofs.YtdkaacjeogifdaaGreat.H

/-
  The document's own Home: first all images behind one another.
-/
namespace Go.Proofs.YtdkaacjeogifdaaGreat.H
open Go.RowKit
open Go.Proofs.YtdkaacjeogifdaaGreat.Rc (Imgs owns_below owns_shape owns_block)
open Go.Proofs.YtdkaacjeogifdaaGreat.Dk (Box)

/-- the cells of images, whatever their data -/
def imQ (is : List Im) : List Value := is.flatMap fun q => [.int .i64 q.1, .slice q.2.1 q.2.2.1 q.2.2.2]
theorem imQ_length (is : List Im) : (imQ is).length = is.length * 2 := by
  induction is with
  | nil => rfl
  | cons p l ih => simp only [imQ, List.flatMap_cons, List.length_append, List.length_cons, List.length_nil] at ih ⊢; omega
theorem imQ_append (a b : List Im) : imQ (a ++ b) = imQ a ++ imQ b := by simp [imQ]
theorem imQ_at (is : List Im) (i : Nat) (h : i < is.length) : (imQ is)[i * 2]? = some (.int .i64 is[i].1) ∧ (imQ is)[i * 2 + 1]? = some (.slice is[i].2.1 is[i].2.2.1 is[i].2.2.2) := by
  induction is generalizing i with
  | nil => simp at h
  | cons p l ih =>
    cases i with
    | zero => simp [imQ]
    | succ i =>
      have := ih i (by simpa using h)
      simp only [imQ, List.flatMap_cons, List.getElem_cons_succ] at this ⊢
      rw [show (i + 1) * 2 = i * 2 + 2 by omega, show i * 2 + 2 + 1 = i * 2 + 1 + 2 by omega]
      simpa using this
theorem imQ_one (is : List Im) : ∀ u ∈ imQ is, u.oneCell' = true := fun u hu => by
  obtain ⟨q, _, hq⟩ := List.mem_flatMap.1 hu
  simp at hq
  rcases hq with rfl | rfl <;> rfl
theorem imQ_news {w : World} {ad : Addr} {is : List Im} (h : CellsI w (some ad) is) : ∀ j u, (imQ is)[j]? = some u → w.cell? (ad.add j) = some u := fun j u hj => by
  have hl := (List.getElem?_eq_some_iff.1 hj).1
  rw [imQ_length] at hl
  obtain ⟨b, o, e, hc⟩ := h (by omega)
  injection e with e
  subst e
  rw [Addr.add_lit]
  have hi : j / 2 < is.length := by omega
  obtain ⟨e1, e2⟩ := imQ_at is (j / 2) hi
  obtain ⟨c1, c2⟩ := hc (j / 2) hi
  rcases Nat.mod_two_eq_zero_or_one j with h0 | h0
  · rw [show j / 2 * 2 = j by omega] at e1 c1
    rw [hj] at e1
    rw [c1, ← e1]
  · rw [show j / 2 * 2 + 1 = j by omega] at e2
    rw [show o + j / 2 * 2 + 1 = o + j by omega] at c2
    rw [hj] at e2
    rw [c2, ← e2]

/-- what stands behind the first loop: all images -/
structure AllR (B : Nat) (w u : World) (gl : Nat) (LA : Array Value) (v : Value) (is : List Im) : Prop where
  row : u.ownsRow B 57 2 v is.length (imQ is)
  box : Box u gl LA 24
  bel : Below w.heap.size w u
  lt : gl < B
  le : B ≤ u.heap.size
  ge : w.heap.size ≤ gl

theorem AllR.more {B gl : Nat} {w u u' : World} {LA : Array Value} {v v' : Value} {is js : List Im} (h : AllR B w u gl LA v is) (hown : u'.ownsRow B 57 2 v' (is.length + js.length) (imQ is ++ imQ js)) (hg : u.grownBy u' v.ownBlock) : AllR B w u' gl LA v' (is ++ js) := by
  have hb : ∀ j, v.ownBlock = some j → B ≤ j := fun j e => (owns_block h.row j e).1
  refine ⟨by rw [imQ_append, List.length_append]; exact hown, (hg.block gl h.box.lt (fun e => by have := hb gl e.symm; have := h.lt; omega)).trans h.box, h.bel.grown hg h.bel.size (fun j e => Nat.le_trans h.ge (Nat.le_trans (Nat.le_of_lt h.lt) (hb j e))), h.lt, Nat.le_trans h.le hg.size, h.ge⟩

theorem AllR.drew {B gl : Nat} {w u : World} {LA : Array Value} {v : Value} {is : List Im} (h : AllR B w u gl LA v is) (q : Nat) : AllR B w (u.drewN q) gl LA v is :=
  ⟨h.row, h.box, below_drewN h.bel q, h.lt, h.le, h.ge⟩
/-- the first k lie within -/
def allIn (lo hi : Int) (is : List Im) (k : Nat) : Prop := ∀ j (h : j < is.length), j < k → lo ≤ is[j].1 ∧ is[j].1 < hi
theorem all_bad {lo : Int} {nb : Nat} {is : List Im} {L : List ImD} (he : is = L.map (·.1)) (j : Nat) (hj : j < is.length) (hb : is[j].1 < lo ∨ (nb : Int) ≤ is[j].1) : (L.all fun p => rightIm lo (nb - 1) p.1) = false := by
  subst he
  have hj' : j < L.length := by simpa using hj
  rw [List.getElem_map] at hb
  refine List.all_eq_false.2 ⟨L[j], List.getElem_mem hj', ?_⟩
  simp only [rightIm, Su.wi, Bool.and_eq_true, decide_eq_true_eq]
  omega
theorem all_good {lo : Int} {nb : Nat} {is : List Im} {L : List ImD} (he : is = L.map (·.1)) (h : allIn lo nb is is.length) : (L.all fun p => rightIm lo (nb - 1) p.1) = true := by
  subst he
  refine List.all_eq_true.2 fun p hp => ?_
  obtain ⟨j, hj, rfl⟩ := List.getElem_of_mem hp
  have := h j (by simpa using hj) (by simpa using hj)
  rw [List.getElem_map] at this
  simp only [rightIm, Su.wi, Bool.and_eq_true, decide_eq_true_eq]
  omega
set_option maxRecDepth 100000 in
set_option maxHeartbeats 4000000 in
theorem rhome_in (nb : Nat) (h64 : 64 ≤ nb) (h512 : nb ≤ 512) (w : World) (ga : Option Addr) (gn gc : Nat) (gs : List Gr) (hgn : gs.length = gn) (hgm : gn ≤ 1000) (hG : CellsG w ga gs) (hN : ∀ g ∈ gs, g.a = none → g.c = 0) (hT : (allIs gs).length ≤ 1048576) (L : List ImD) (hL : allIs gs = L.map (·.1)) (hD : AnyD w L) :
    Calls Tryz.prog 8 #[.agg (La.layA nb), .slice ga gn gc] w fun r w' =>
      ((L.all fun p => rightIm (2 + (La.lgs nb : Int)) (nb - 1) p.1) = true → ∃ a c ks, r = .returned (.tuple #[.slice a (List.length ks) c, .int .i64 0]) ∧ KeysOf (pl L) ks ∧ ks.length ≤ 512 ∧ Imgs w' a (ks.map fun k => (k, datD (pl L) k))) ∧
      ((L.all fun p => rightIm (2 + (La.lgs nb : Int)) (nb - 1) p.1) = false → r = .returned (.tuple #[.slice none 0 0, .int .i64 90])) ∧ Below w.heap.size w w' := by
  have HLL : Hid (allIs gs = L.map (·.1)) := hL
  have HD : Hid (AnyD w L) := hD
  clear hL hD
  have al := (Below.refl w.heap.size w).alloc (Nat.le_refl _) (.cells (La.layA nb) 24)
  have x := Box.new w (La.layA nb) 24
  have cR := right_good nb h64 h512 (w.alloc (.cells (La.layA nb) 24)) 2 (La.lgs nb) (2 + (La.lgs nb : Int)) (3 + (La.lgs nb : Int)) ((nb : Int) / 16) (3 + (La.lgs nb : Int) + (nb : Int) / 16)
  rw [show La.same7 nb 2 (La.lgs nb) (2 + (La.lgs nb : Int)) (3 + (La.lgs nb : Int)) ((nb : Int) / 16) (3 + (La.lgs nb : Int) + (nb : Int) / 16) nb 2 (La.lgs nb) (2 + (La.lgs nb : Int)) (3 + (La.lgs nb : Int)) ((nb : Int) / 16) (3 + (La.lgs nb : Int) + (nb : Int) / 16) = true by simp [La.same7]] at cR
  obtain ⟨i0, hi, hz0, hz1, hz2⟩ := info_parts Rc.info38
  have HG : Hid (CellsG w ga gs) := hG
  have HN : Hid (∀ g ∈ gs, g.a = none → g.c = 0) := hN
  have HL : Hid (gs.length = gn) := hgn
  have HT : Hid ((allIs gs).length ≤ 1048576) := hT
  clear hG hN hgn hT
  unfold La.layA at x al cR ⊢
  generalize hm3 : (2 + (La.lgs nb : Int)) = m3 at x al cR ⊢
  have HM3 : Hid (2 + (La.lgs nb : Int) = m3) := hm3
  clear hm3
  generalize (3 + (La.lgs nb : Int) + (nb : Int) / 16) = m6 at x al cR ⊢
  generalize (3 + (La.lgs nb : Int)) = m4 at x al cR ⊢
  generalize ((nb : Int) / 16) = m5 at x al cR ⊢
  generalize (La.lgs nb : Int) = m2 at x al cR ⊢
  have c0 := x.cell 0
  have c1 := x.cell 1
  have c2 := x.cell 2
  have c3 := x.cell 3
  have c4 := x.cell 4
  have c5 := x.cell 5
  have c6 := x.cell 6
  simp only [List.getElem?_toArray, List.getElem?_cons_zero, List.getElem?_cons_succ] at c0 c1 c2 c3 c4 c5 c6
  go_enter Tryz.func8, Tryz.ntmps8
  go_wp2_with fail
  refine Calls.mono cR ?_
  rintro r u1 ⟨rfl, b1⟩
  have B1 := al.trans (b1.mono al.size)
  have x1 := x.below b1
  have zz : w.heap.size < u1.heap.size := Nat.lt_of_lt_of_le (by simp) b1.size
  obtain ⟨LA, hLA⟩ : ∃ LA : Array Value, LA = #[.int .i64 nb, .int .i64 2, .int .i64 m2, .int .i64 m3, .int .i64 m4, .int .i64 m5, .int .i64 m6] := ⟨_, rfl⟩
  have HLA : Hid (LA = #[.int .i64 nb, .int .i64 2, .int .i64 m2, .int .i64 m3, .int .i64 m4, .int .i64 m5, .int .i64 m6]) := hLA
  rw [← hLA] at x1
  have HS0 : Hid (AllR u1.heap.size w u1 w.heap.size LA (.slice none 0 0) []) := ⟨World.ownsRow_nil _ _ _ _, x1, B1, zz, Nat.le_refl _, Nat.le_refl _⟩
  clear cR c0 c1 c2 c3 c4 c5 c6 x al b1 B1 x1 hLA zz
  go_wp2_with fail
  go_loopw [6, 7] (fun v i u => ∃ k : Nat, k ≤ gn ∧ i = .int .i64 (k : Int) ∧ AllR u1.heap.size w u w.heap.size LA v (allIs (gs.take k))) (fun _ i _ => gn - (intOf i).toNat)
  case atStart => exact ⟨0, Nat.zero_le _, rfl, HS0.out⟩
  case round =>
    clear HS0
    obtain ⟨k, hk, rfl, hS⟩ := hrel
    have HS : Hid (AllR u1.heap.size w wr w.heap.size LA u6 (allIs (gs.take k))) := hS
    obtain ⟨av, cv, rfl⟩ := owns_shape hS.row
    have B := hS.bel
    clear hS
    by_cases hlt : k < gn
    · have hki : (k : Int) < (gn : Int) := by omega
      have hk0 : (0 : Int) ≤ (k : Int) := by omega
      have hkl : k < gs.length := by rw [HL.out]; exact hlt
      obtain ⟨b, o, rfl, hcc⟩ := HG.out (by omega)
      obtain ⟨g0, g1, g2, hci, hil⟩ := hcc k hkl
      have hnext := allIs_take hkl
      have htot : (allIs (gs.take k)).length + gs[k].is.length ≤ 1048576 := by
        have h1 : allIs gs = allIs (gs.take (k + 1)) ++ allIs (gs.drop (k + 1)) := by
          unfold allIs
          rw [← List.flatMap_append, List.take_append_drop]
        have h2 := HT.out
        rw [h1, hnext, List.length_append, List.length_append] at h2
        omega
      have hnl := HN.out gs[k] (List.getElem_mem hkl)
      have HNx : Hid (allIs (gs.take (k + 1)) = allIs (gs.take k) ++ gs[k].is) := hnext
      generalize (gs[k]'hkl) = gr at g0 g1 g2 hci hil HNx htot hnl
      obtain ⟨ge, gq, ia, ic, is⟩ := gr
      dsimp only at g0 g1 g2 hci hil HNx htot hnl
      have lb := block_lt_of_cell g0
      have e2 := (B.cell (p := ⟨b, o + k * 3 + 2, none⟩) lb).trans g2
      have hci' : CellsI wr ia is := fun hp => by
        obtain ⟨b', o', e', hc'⟩ := hci hp
        exact ⟨b', o', e', fun j hj => ⟨(B.cell (p := ⟨b', o' + j * 2, none⟩) (block_lt_of_cell (hc' j hj).1)).trans (hc' j hj).1, (B.cell (p := ⟨b', o' + j * 2 + 1, none⟩) (block_lt_of_cell (hc' j hj).2)).trans (hc' j hj).2⟩⟩
      have own1 := HS.out.row
      have zB := HS.out.le
      have hone := imQ_one is
      have hlq : (imQ is).length = is.length * 2 := imQ_length is
      clear g0 g1 g2 hcc hci lb hnext
      cases ia with
      | none =>
        have h0 : is = [] := by
          rcases Nat.eq_zero_or_pos is.length with h | h
          · exact List.eq_nil_of_length_eq_zero h
          · obtain ⟨_, _, e, _⟩ := hci' h
            cases e
        have hc0 := hnl rfl
        subst h0 hc0
        have HS2 : Hid (AllR u1.heap.size w wr w.heap.size LA (.slice av (allIs (gs.take k)).length cv) (allIs (gs.take (k + 1)))) := by
          rw [HNx.out, List.append_nil]
          exact HS.out
        simp only [List.length_nil] at e2
        go_wp2_with (at_builtin; refine wpList_append_own_none rfl _ _ 26 rfl u1.heap.size 57 i0 2 Tryz.underlying26 hi _ _ _ rfl own1 rfl ?_)
        go_wp2_with fail
        go_roundw
        case rel => exact ⟨k + 1, by omega, by push_cast; rfl, HS2.out⟩
        case measure => simp [intOf]; omega
      | some ad =>
        have hnews := imQ_news hci'
        obtain ⟨T, hT⟩ : ∃ T, T = (allIs (gs.take k)).length := ⟨_, rfl⟩
        have HTT : Hid (T = (allIs (gs.take k)).length) := hT
        rw [← hT] at own1 htot ⊢
        clear hT hci' hnl
        go_wp2_with (at_builtin; refine wpList_append_own _ rfl _ _ 26 rfl u1.heap.size 57 i0 _ 2 32 Tryz.underlying26 hi hz0 hz1 hz2 rfl (by decide) _ T _ rfl own1 ad is.length ic (imQ is) rfl hlq hnews hone ?c3 ?c4 zB ?_)
        case c3 => unfold maxLen; omega
        case c4 => omega
        intro v' w1 hown1 hgrow _
        have HS2 : Hid (AllR u1.heap.size w w1 w.heap.size LA v' (allIs (gs.take (k + 1)))) := by
          rw [HNx.out]
          have h := HS.out
          rw [← HTT.out] at h
          exact h.more (by rw [← HTT.out]; exact hown1) hgrow
        clear hown1 hgrow hnews own1
        go_wp2_with fail
        go_roundw
        case rel => exact ⟨k + 1, by omega, by push_cast; rfl, HS2.out⟩
        case measure => simp [intOf]; omega
    · have hke : k = gn := by omega
      have HS2 : Hid (AllR u1.heap.size w wr w.heap.size LA (.slice av (allIs (gs.take k)).length cv) (allIs gs)) := by
        have := HS.out
        rw [hke, ← HL.out, List.take_length] at this ⊢
        exact this
      rw [show (allIs (gs.take k)).length = (allIs gs).length by rw [hke, ← HL.out, List.take_length]] at HS2 ⊢
      clear HS hlt hk
      subst hke
      go_wp2_with fail
      obtain ⟨is, hisE⟩ : ∃ is, is = allIs gs := ⟨_, rfl⟩
      have HIS : Hid (is = allIs gs) := hisE
      have hT : is.length ≤ 1048576 := by rw [hisE]; exact HT.out
      rw [← hisE] at HS2 ⊢
      clear hisE HT HG HN HL B hgm
      go_loopw [8] (fun i u => ∃ k : Nat, k ≤ is.length ∧ i = .int .i64 (k : Int) ∧ AllR u1.heap.size w u w.heap.size LA (.slice av is.length cv) is ∧ allIn m3 nb is k) (fun i _ => is.length - (intOf i).toNat)
      case atStart => exact ⟨0, Nat.zero_le _, rfl, HS2.out, fun j _ h => absurd h (Nat.not_lt_zero _)⟩
      case round =>
        clear HS2
        obtain ⟨k, hk, rfl, hS, hin⟩ := hrel
        by_cases hlt : k < is.length
        · have HS : Hid (AllR u1.heap.size w wr w.heap.size LA (.slice av is.length cv) is) := hS
          have HIN : Hid (allIn m3 nb is k) := hin
          obtain ⟨g, rfl, _, _, hc⟩ := Rc.owns_cells hS.row (by omega)
          have q0 := hc (k * 2) (by omega)
          rw [(imQ_at is k hlt).1] at q0
          have x := hS.box
          rw [HLA.out] at x
          have c0 := x.cell 0
          have c3 := x.cell 3
          simp only [List.getElem?_toArray, List.getElem?_cons_zero, List.getElem?_cons_succ] at c0 c3
          have hk0 : (0 : Int) ≤ (k : Int) := by omega
          have hki : (k : Int) < (is.length : Int) := by omega
          obtain ⟨bx, hbx⟩ : ∃ bx, bx = is[k].1 := ⟨_, rfl⟩
          have HBX : Hid (bx = is[k].1) := hbx
          rw [← hbx] at q0
          clear hbx hS hin hc x
          by_cases h1 : bx < m3
          · have d1 : decide (bx < m3) = true := decide_eq_true h1
            have hbad : Hid ((L.all fun p => rightIm m3 (nb - 1) p.1) = false) :=
              all_bad (HIS.out.trans HLL.out) k hlt (by rw [← HBX.out]; exact .inl h1)
            go_wp2_with fail
            go_quiet (fail)
            have HS3 := HS.out.drew nq
            go_wp2_with fail
            refine bodyPost_ret (v := .tuple #[.slice none 0 0, .int .i64 90]) (by simp [results, Tryz.results8, go_sem]) rfl ?_
            exact ⟨fun h => (by rw [hbad.out] at h; cases h), fun _ => rfl, HS3.bel⟩
          · have d1 : decide (bx < m3) = false := decide_eq_false h1
            by_cases h2 : (nb : Int) ≤ bx
            · have d2 : decide ((nb : Int) ≤ bx) = true := decide_eq_true h2
              have hbad : Hid ((L.all fun p => rightIm m3 (nb - 1) p.1) = false) :=
                all_bad (HIS.out.trans HLL.out) k hlt (by rw [← HBX.out]; exact .inr h2)
              go_wp2_with fail
              go_quiet (fail)
              have HS3 := HS.out.drew nq
              go_wp2_with fail
              refine bodyPost_ret (v := .tuple #[.slice none 0 0, .int .i64 90]) (by simp [results, Tryz.results8, go_sem]) rfl ?_
              exact ⟨fun h => (by rw [hbad.out] at h; cases h), fun _ => rfl, HS3.bel⟩
            · have d2 : decide ((nb : Int) ≤ bx) = false := decide_eq_false h2
              have HIN2 : Hid (allIn m3 nb is (k + 1)) := fun j hj hjk => by
                rcases Nat.lt_or_ge j k with h | h
                · exact HIN.out j hj h
                · obtain rfl : j = k := by omega
                  rw [← HBX.out]
                  omega
              go_wp2_with fail
              go_quiet (fail)
              have HS3 : Hid _ := HS.out.drew nq
              clear q0 c0 c3
              go_wp2_with fail
              go_roundw
              case rel => exact ⟨k + 1, by omega, by push_cast; rfl, HS3.out, HIN2.out⟩
              case measure => simp [intOf]; omega
        · obtain rfl : k = is.length := by omega
          have HS : Hid (AllR u1.heap.size w wr w.heap.size LA (.slice av is.length cv) is) := hS
          have HIN : Hid (allIn m3 nb is is.length) := hin
          have x := hS.box
          rw [HLA.out] at x
          have c3 := x.cell 3
          simp only [List.getElem?_toArray, List.getElem?_cons_zero, List.getElem?_cons_succ] at c3
          clear hS hin hk hlt x
          go_wp2_with fail
          clear c3
          have hm3 : m3 ≤ nb ∧ 0 ≤ m3 := by
            have h1 := HM3.out
            have h2 := La.lgs_free nb h64
            omega
          obtain ⟨hm3, hm0⟩ := hm3
          obtain ⟨wz, hwz⟩ : ∃ wz, wz = wr := ⟨_, rfl⟩
          subst hwz
          go_loopw [9, 10] (fun v b u => ∃ (k : Nat) (ps : List Rc.CP), m3 + (k : Int) ≤ nb ∧ b = .int .i64 (m3 + (k : Int)) ∧ u.ownsRow wz.heap.size 57 2 v ps.length (Rc.cpC ps) ∧ Rc.CpJ wz.heap.size u ps ∧ ps.map (fun p => (p.b, p.xs)) = outD (pl L) m3 k ∧ Below wz.heap.size wz u) (fun _ b _ => ((nb : Int) - intOf b).toNat)
          case atStart => exact ⟨0, [], by simpa using hm3, by simp, World.ownsRow_nil _ _ _ _, ⟨fun p hp => (by cases hp), List.Pairwise.nil⟩, rfl, Below.refl _ _⟩
          case round =>
            obtain ⟨k, ps, hk, rfl, hown, hJ, hps, B⟩ := hrel
            have HPS : Hid (ps.map (fun p => (p.b, p.xs)) = outD (pl L) m3 k) := hps
            have HJ : Hid (Rc.CpJ wz.heap.size wr ps) := hJ
            have HOWN : Hid (wr.ownsRow wz.heap.size 57 2 u9 ps.length (Rc.cpC ps)) := hown
            have hpl : ps.length ≤ k := by
              have h1 := congrArg List.length hps
              have h2 := outD_len (pl L) m3 k
              rw [List.length_map] at h1
              omega
            clear hps hJ
            obtain ⟨ao, co, rfl⟩ := owns_shape hown
            obtain ⟨np, hnp⟩ : ∃ np, np = ps.length := ⟨_, rfl⟩
            have HNP : Hid (np = ps.length) := hnp
            rw [← hnp] at HOWN hpl ⊢
            have x := HS.out.box.below B
            rw [HLA.out] at x
            have c0 := x.cell 0
            simp only [List.getElem?_toArray, List.getElem?_cons_zero] at c0
            have HB : Hid (Below wz.heap.size wz wr) := B
            clear x hown hnp B
            by_cases hlt : m3 + (k : Int) < nb
            · go_wp2_with fail
              clear c0
              obtain ⟨wy, hwy⟩ : ∃ wy, wy = wr := ⟨_, rfl⟩
              subst hwy
              go_loopw [9, 11] (fun v i u => ∃ t : Nat, t ≤ is.length ∧ v = .slice ao np co ∧ i = .int .i64 ((t : Int) - 1) ∧ (∀ j (h : j < is.length), t ≤ j → is[j].1 ≠ m3 + (k : Int)) ∧ Below wy.heap.size wy u) (fun _ i _ => (intOf i + 1).toNat)
              case atStart => exact ⟨is.length, Nat.le_refl _, rfl, rfl, fun j h h' => absurd h (Nat.not_lt.2 h'), Below.refl _ _⟩
              case round =>
                obtain ⟨t, ht, rfl, rfl, hno, B⟩ := hrel
                have HNO : Hid (∀ j (h : j < is.length), t ≤ j → is[j].1 ≠ m3 + (k : Int)) := hno
                clear hno
                cases t with
                | zero =>
                  have hnone : lastD (pl L) (m3 + (k : Int)) = none := lastD_none fun p hp => by
                    obtain ⟨q, hq, rfl⟩ := List.mem_map.1 hp
                    obtain ⟨j, hj, rfl⟩ := List.getElem_of_mem hq
                    have he := HIS.out.trans HLL.out
                    have hjl : j < is.length := by rw [he]; simpa using hj
                    have := HNO.out j hjl (Nat.zero_le _)
                    simp only [he, List.getElem_map] at this
                    exact this
                  have HPS2 : Hid (ps.map (fun p => (p.b, p.xs)) = outD (pl L) m3 (k + 1)) := by
                    rw [outD_none hnone]
                    exact HPS.out
                  have HO2 : Hid (wr.ownsRow wz.heap.size 57 2 (.slice ao np co) ps.length (Rc.cpC ps)) := by
                    rw [← HNP.out]
                    exact owns_below HOWN.out B
                  have HJ2 : Hid (Rc.CpJ wz.heap.size wr ps) := HJ.out.below B
                  have B2 := HB.out.trans (B.mono HB.out.size)
                  clear hnone
                  go_wp2_with fail
                  go_roundw
                  case rel => exact ⟨k + 1, ps, by push_cast; omega, by push_cast; congr 1; omega, HO2.out, HJ2.out, HPS2.out, B2⟩
                  case measure => simp [intOf]; omega
                | succ t =>
                  have htl : t < is.length := by omega
                  obtain ⟨g, rfl, _, _, hc⟩ := Rc.owns_cells HS.out.row (by omega)
                  have Bz := HB.out.trans (B.mono HB.out.size)
                  have q0 := hc (t * 2) (by omega)
                  have q1 := hc (t * 2 + 1) (by omega)
                  rw [(imQ_at is t htl).1] at q0
                  rw [(imQ_at is t htl).2] at q1
                  have q0 := (Bz.cell (p := ⟨g, t * 2, none⟩) (block_lt_of_cell q0)).trans q0
                  have q1 := (Bz.cell (p := ⟨g, t * 2 + 1, none⟩) (block_lt_of_cell q1)).trans q1
                  have he := HIS.out.trans HLL.out
                  have htL : t < L.length := by
                    have := congrArg List.length he
                    rw [List.length_map] at this
                    omega
                  have hE : is[t] = L[t].1 := by simp only [he, List.getElem_map]
                  have hDD := HD.out L[t] (List.getElem_mem htL)
                  have htp : t < (pl L).length := by simpa [pl] using htL
                  have HF : Hid (∀ x, x = m3 + (k : Int) → x = is[t].1 → lastD (pl L) (m3 + (k : Int)) = some L[t].2) := fun x h1 h2 => by
                    have h3 := lastD_found (M := pl L) (k := m3 + (k : Int)) (j := t) htp (by simp only [pl, List.getElem_map]; rw [← h1, h2, hE]) (fun i hi hti => by
                      have hil : i < is.length := by rw [he]; simpa [pl] using hi
                      have := HNO.out i hil (by omega)
                      simp only [he, List.getElem_map] at this
                      simpa [pl] using this)
                    simpa [pl] using h3
                  have HNE : Hid (is[t].1 ≠ m3 + (k : Int) → ∀ j (h : j < is.length), t ≤ j → is[j].1 ≠ m3 + (k : Int)) := fun h j hj htj => by
                    rcases Nat.lt_or_ge t j with h1 | h1
                    · exact HNO.out j hj h1
                    · obtain rfl : t = j := by omega
                      exact h
                  rw [hE] at q0 q1 HF HNE
                  clear hE htp hc he
                  generalize (L[t]'htL) = P at q0 q1 hDD HF HNE
                  obtain ⟨⟨pb, pa, pn, pc⟩, xs⟩ := P
                  dsimp only at q0 q1 hDD HF HNE
                  obtain ⟨r1, r2, r3, r4⟩ := hDD
                  subst r2
                  have Bw : Below w.heap.size w wr := HS.out.bel.trans (Bz.mono HS.out.bel.size)
                  have cC := Rc.copyBytes_at pc xs.length pa xs wr rfl r3 (r1.below Bw (Nat.le_refl _)) r4
                  clear r1 r3 r4 Bw
                  have ht0 : (0 : Int) ≤ ((t + 1 : Nat) : Int) - 1 := by omega
                  have hti : ((t + 1 : Nat) : Int) - 1 < (is.length : Int) := by omega
                  rw [show ((t + 1 : Nat) : Int) - 1 = (t : Int) by omega] at ht0 hti ⊢
                  by_cases hb : pb = m3 + (k : Int)
                  · have hF := HF.out pb hb rfl
                    subst hb
                    have HPS2 : Hid (ps.map (fun p => (p.b, p.xs)) ++ [(m3 + (k : Int), xs)] = outD (pl L) m3 (k + 1)) := by
                      rw [outD_some hF]
                      exact congrArg (· ++ _) HPS.out
                    clear hF HF HNE
                    go_wp2_with fail
                    refine Calls.mono cC ?_
                    rintro r W ⟨v, rfl, hv, bW⟩
                    obtain ⟨ax, cz, rfl⟩ := owns_shape hv
                    have O1 : wr.ownsRow wz.heap.size 57 2 (.slice ao np co) np (Rc.cpC ps) := owns_below HOWN.out B
                    have J2 : Hid (Rc.CpJ wz.heap.size W (ps ++ [⟨m3 + (k : Int), xs, .slice ax xs.length cz⟩])) := (HJ.out.below B).snoc bW ⟨m3 + (k : Int), xs, .slice ax xs.length cz⟩ hv Bz.size
                    have O2 : Hid (W.ownsRow wz.heap.size 57 2 (.slice ao np co) np (Rc.cpC ps)) := owns_below O1 bW
                    have B1 := Bz.trans (bW.mono Bz.size)
                    have own1 := (O2.out).alloc (.cells #[.int .i64 (m3 + (k : Int)), .slice ax xs.length cz] 57)
                    have z1 := B1.size
                    clear bW cC B Bz q0 q1 hv O1
                    go_wp2_with (at_builtin; refine wpList_append_own _ rfl _ _ 26 rfl wz.heap.size 57 i0 _ 2 32 Tryz.underlying26 hi hz0 hz1 hz2 rfl (by decide) _ np _ rfl own1 ⟨W.heap.size, 0, none⟩ 1 1 [.int .i64 (m3 + (k : Int)), .slice ax xs.length cz] rfl rfl ?c1 ?c2 ?c3 ?c4 ?c5 ?_)
                    case c1 => exact World.news_of_block (cs := #[.int .i64 (m3 + (k : Int)), .slice ax xs.length cz]) (t := 57) (fr := (0, 0)) (heap_alloc_new W _)
                    case c2 => intro u hu; simp at hu; rcases hu with rfl | rfl <;> rfl
                    case c3 => unfold maxLen; omega
                    case c4 => omega
                    case c5 => simp; omega
                    · intro v' w1 hown1 hgrow _
                      have al := (Below.refl _ W).alloc (Nat.le_refl _) (.cells #[.int .i64 (m3 + (k : Int)), .slice ax xs.length cz] 57)
                      have B2 : Below wz.heap.size wz w1 := (B1.alloc z1 _).grown hgrow (by simp; omega) (fun j e => (owns_block O2.out j e).1)
                      have J3 : Hid (Rc.CpJ wz.heap.size w1 (ps ++ [⟨m3 + (k : Int), xs, .slice ax xs.length cz⟩])) := (J2.out.below al).grown own1 (by decide) hgrow
                      have O5 : Hid (w1.ownsRow wz.heap.size 57 2 v' (ps ++ [(⟨m3 + (k : Int), xs, .slice ax xs.length cz⟩ : Rc.CP)]).length (Rc.cpC (ps ++ [⟨m3 + (k : Int), xs, .slice ax xs.length cz⟩]))) := by
                        have e : Rc.cpC (ps ++ [⟨m3 + (k : Int), xs, .slice ax xs.length cz⟩]) = Rc.cpC ps ++ [.int .i64 (m3 + (k : Int)), .slice ax xs.length cz] := by simp [Rc.cpC]
                        rw [e, List.length_append, ← HNP.out]
                        exact hown1
                      have HPS3 : Hid ((ps ++ [(⟨m3 + (k : Int), xs, .slice ax xs.length cz⟩ : Rc.CP)]).map (fun p => (p.b, p.xs)) = outD (pl L) m3 (k + 1)) := by
                        rw [List.map_append]
                        exact HPS2.out
                      clear hgrow own1 al hown1 J2 O2
                      go_wp2_with fail
                      go_roundw
                      case rel => exact ⟨k + 1, _, by push_cast; omega, by push_cast; congr 1; omega, O5.out, J3.out, HPS3.out, B2⟩
                      case measure => simp [intOf]; omega
                  · have HNO2 : Hid (∀ j (h : j < is.length), t ≤ j → is[j].1 ≠ m3 + (k : Int)) := HNE.out hb
                    clear cC HNE HF q1
                    go_wp2_with fail
                    go_roundw
                    case rel => exact ⟨t, by omega, rfl, rfl, HNO2.out, B⟩
                    case measure => simp [intOf]
            · have hke : (k : Int) = nb - m3 := by omega
              have hgood := all_good (HIS.out.trans HLL.out) HIN.out
              obtain ⟨ks, hks, hout⟩ := outD_keys (M := pl L) (lo := m3) (t := k) (fun p hp => by
                obtain ⟨q, hq, rfl⟩ := List.mem_map.1 hp
                obtain ⟨j, hj, rfl⟩ := List.getElem_of_mem hq
                have he := HIS.out.trans HLL.out
                have hjl : j < is.length := by rw [he]; simpa using hj
                have := HIN.out j hjl hjl
                simp only [he, List.getElem_map] at this
                show m3 ≤ L[j].1.1 ∧ L[j].1.1 < m3 + (k : Int)
                omega)
              have hlen : np = ks.length := by
                have h1 := congrArg List.length (HPS.out.trans hout)
                rw [List.length_map, List.length_map, ← HNP.out] at h1
                exact h1
              have HI : Hid (Imgs wr ao (ks.map fun k => (k, datD (pl L) k))) := by
                have := Rc.imgs_cp HOWN.out HJ.out HNP.out.symm
                rw [HPS.out, hout] at this
                exact this
              have Bw : Below w.heap.size w wr := HS.out.bel.trans (HB.out.mono HS.out.bel.size)
              have HH : Hid (((L.all fun p => rightIm m3 (nb - 1) p.1) = true) ∧ KeysOf (pl L) ks ∧ np = ks.length) := ⟨hgood, hks, hlen⟩
              clear hgood hks hout hlen hke
              go_wp2_with fail
              refine bodyPost_ret (v := .tuple #[.slice ao np co, .int .i64 0]) (by simp [results, Tryz.results8, go_sem]) rfl ?_
              refine ⟨fun _ => ⟨ao, co, ks, ?_, HH.out.2.1, ?_, HI.out⟩, ?_, Bw⟩
              · rw [← HH.out.2.2]
              · rw [← HH.out.2.2]
                omega
              · intro x1 x2 x3 x4 x5 hm hf
                have h1 := List.all_eq_true.1 HH.out.1 _ hm
                dsimp only at h1
                rw [hf] at h1
                cases h1
end Go.Proofs.YtdkaacjeogifdaaGreat.H

/-
  The library's walk through a list of writes, from its end.
-/
namespace Go.Proofs.YtdkaacjeogifdaaGreat.Dk
open Go.RowKit Go.Shelf
attribute [local go_sem] Oper.semAt_some

abbrev Wr := Nat × (Nat × Nat × Nat)
def encW (x : Wr) : Array Value := #[.int .i64 (x.1 : Int), .agg #[.int .i64 (x.2.1 : Int), .slice (some ⟨x.2.2.1, 0, none⟩) 4096 x.2.2.2]]
/-- what comes in round j -/
def comes (ps : List (Nat × Nat × Nat)) (j : Nat) : Wr := (ps.length - 1 - j, ps[ps.length - 1 - j]?.getD (0, 0, 0))
/-- what has come behind k rounds -/
def downs (ps : List (Nat × Nat × Nat)) (k : Nat) : List Wr := (List.range k).map (comes ps)
theorem downs_succ (ps : List (Nat × Nat × Nat)) (k : Nat) : downs ps (k + 1) = downs ps k ++ [comes ps k] := by simp [downs, List.range_succ]
theorem downs_length (ps : List (Nat × Nat × Nat)) (k : Nat) : (downs ps k).length = k := by simp [downs]

/-- The writes ps lie where v says, below n₀. -/
def Wrs (n₀ : Nat) (w : World) (v : Value) (ps : List (Nat × Nat × Nat)) : Prop :=
  (∃ a cap, v = .slice a 0 cap ∧ ps = []) ∨ ∃ b cap, v = .slice (some ⟨b, 0, none⟩) ps.length cap ∧ b < n₀ ∧ ∀ j (h : j < ps.length), w.cell? ⟨b, 0 + j * 2, none⟩ = some (.int .i64 (ps[j].1 : Int)) ∧ w.cell? ⟨b, 0 + j * 2 + 1, none⟩ = some (.slice (some ⟨ps[j].2.1, 0, none⟩) 4096 ps[j].2.2)
theorem Wrs.below {n₀ : Nat} {A B : World} {v : Value} {ps : List (Nat × Nat × Nat)} (hb : Below n₀ A B) (h : Wrs n₀ A v ps) : Wrs n₀ B v ps := by
  rcases h with h | ⟨b, cap, hv, hlt, hc⟩
  · exact .inl h
  · refine .inr ⟨b, cap, hv, hlt, fun j hj => ?_⟩
    obtain ⟨h0, h1⟩ := hc j hj
    exact ⟨(hb.cell (p := ⟨b, 0 + j * 2, none⟩) hlt).trans h0, (hb.cell (p := ⟨b, 0 + j * 2 + 1, none⟩) hlt).trans h1⟩

end Go.Proofs.YtdkaacjeogifdaaGreat.Dk

/-
  Copy.
-/
namespace Go.Proofs.YtdkaacjeogifdaaGreat.Dk
open Go.RowKit

theorem Lies.shape {w : World} {g : Nat} {D : DS} {F : Nat → Prop} {gd cd : Nat} {vu : Value} {ps : List (Nat × Nat × Nat)} (h : Lies w g D F gd cd vu ps) : ∃ av cu, vu = .slice av D.uf.length cu := by
  have hrow := h.row
  rcases hrow.2 with ⟨h1, h2⟩ | ⟨gv, cu, cur, hv, _⟩
  · exact ⟨none, 0, by rw [h1, h2]⟩
  · exact ⟨some ⟨gv, 0, none⟩, cu, hv⟩

end Go.Proofs.YtdkaacjeogifdaaGreat.Dk

/-
  standing, Read.
-/
namespace Go.Proofs.YtdkaacjeogifdaaGreat.Dk
open Go.RowKit Go.Shelf
attribute [local go_sem] Oper.semAt_some

theorem Lies.wrs {w : World} {g : Nat} {D : DS} {F : Nat → Prop} {gd cd : Nat} {vu : Value} {ps : List (Nat × Nat × Nat)} (h : Lies w g D F gd cd vu ps) (n₀ : Nat) (hn : w.heap.size ≤ n₀) : Wrs n₀ w vu ps := by
  by_cases h0 : 0 < D.uf.length
  · obtain ⟨gv, cu, cur, rfl, _, _, hbv, hc⟩ := h.writes h0
    refine .inr ⟨gv, cu, by rw [h.len], Nat.lt_of_lt_of_le hbv.lt hn, fun j hj => ?_⟩
    have hj' : j < D.uf.length := by rw [← h.len]; exact hj
    obtain ⟨a, b⟩ := hc j hj' hj
    obtain ⟨e, _⟩ := h.each j hj hj'
    exact ⟨by rw [e]; exact a, b⟩
  · obtain ⟨av, cu, rfl⟩ := h.shape
    have e : D.uf.length = 0 := by omega
    exact .inl ⟨av, cu, by rw [e], List.eq_nil_of_length_eq_zero (by rw [h.len, e])⟩

/-- the last write of block nn, met from the end -/
theorem lastOf_met {D : DS} {ps : List (Nat × Nat × Nat)} (nn : Nat) (hl : ps.length = D.uf.length) (he : ∀ k (h : k < ps.length) (h' : k < D.uf.length), ps[k].1 = D.uf[k].1) (k : Nat) (hk : k ≤ ps.length) (hno : ∀ p ∈ downs ps k, p.2.1 ≠ nn) : lastOf D.uf nn D.uf.length = lastOf D.uf nn (D.uf.length - k) := by
  induction k with
  | zero => rfl
  | succ k ih =>
    have h1 := ih (by omega) (fun p hp => hno p (by rw [downs_succ]; exact List.mem_append_left _ hp))
    rw [h1]
    obtain ⟨m, hm⟩ : ∃ m, D.uf.length - k = m + 1 := ⟨D.uf.length - k - 1, by omega⟩
    have hm' : D.uf.length - (k + 1) = m := by omega
    have hlt : m < D.uf.length := by omega
    have hltp : m < ps.length := by omega
    rw [hm, hm', lastOf_succ D.uf nn m hlt]
    have h2 := hno (comes ps k) (by rw [downs_succ]; simp)
    have e1 : comes ps k = (m, ps[m]) := by
      unfold comes
      have : ps.length - 1 - k = m := by omega
      rw [this, List.getElem?_eq_getElem hltp]
      rfl
    rw [e1] at h2
    rw [if_neg (by rw [← he m hltp hlt]; exact h2)]

theorem stand_length {D : DS} (h : D.Ok) (nn : Nat) (hn : nn < D.nb) : (D.stand nn).length = 4096 := by
  have key : ∀ k, k ≤ D.uf.length → ∀ x, lastOf D.uf nn k = some x → x.length = 4096 := by
    intro k
    induction k with
    | zero => intro _ x hx; simp [lastOf] at hx
    | succ k ih =>
      intro hk x hx
      rw [lastOf_succ D.uf nn k (by omega)] at hx
      split at hx
      · have := (h.at k (by omega)).2
        simp at hx
        rw [← hx]; exact this
      · exact ih (by omega) x hx
  unfold DS.stand
  cases e : lastOf D.uf nn D.uf.length with
  | none => exact blk_length _ _ (h.room hn)
  | some x => exact key _ (Nat.le_refl _) x e

end Go.Proofs.YtdkaacjeogifdaaGreat.Dk

/-
  SameInts.
-/
namespace Go.Proofs.YtdkaacjeogifdaaGreat.Dk
open Go.RowKit

/-- These whole numbers lie where a says (of none nothing is asked). -/
def RdI (w : World) (a : Option Addr) (zs : List Int) : Prop :=
  0 < zs.length → ∃ b o, a = some ⟨b, o, none⟩ ∧ ∀ j (h : j < zs.length), w.cell? ⟨b, o + j, none⟩ = some (.int .i64 zs[j])
theorem RdI.below {B : Nat} {w w' : World} {a : Option Addr} {zs : List Int} (h : RdI w a zs) (hb : Below B w w') (hB : w.heap.size ≤ B) : RdI w' a zs := fun hp => by
  obtain ⟨b, o, ha, hc⟩ := h hp
  refine ⟨b, o, ha, fun j hj => ?_⟩
  have hlt : b < w.heap.size := block_lt_of_cell (hc j hj)
  rw [hb.cell (p := ⟨b, o + j, none⟩) (Nat.lt_of_lt_of_le hlt hB)]
  exact hc j hj

end Go.Proofs.YtdkaacjeogifdaaGreat.Dk

/-
  The document's own disk, in memory: blocks' bytes and writes, all in blocks that Q allows.
-/
namespace Go.Proofs.YtdkaacjeogifdaaGreat.Dk
open Go.RowKit

/-- a block's bytes -/
def BlkAt (w : World) (Q : Nat → Prop) (v : Value) (xs : List UInt8) : Prop :=
  ∃ p o c, v = .slice (some ⟨p, o, none⟩) 4096 c ∧ 4096 ≤ c ∧ c ≤ maxLen ∧ Q p ∧ (∃ cur, Box w p cur 5) ∧ xs.length = 4096 ∧ ∀ j (h : j < xs.length), w.cell? ⟨p, o + j, none⟩ = some (.int .u8 (xs[j].toNat : Int))
/-- blocks' bytes, one behind another -/
def SafeAt (w : World) (Q : Nat → Prop) (a : Option Addr) (n c : Nat) (bs : List (List UInt8)) : Prop :=
  bs.length = n ∧ n ≤ c ∧ c ≤ maxLen ∧ ∃ g o, a = some ⟨g, o, none⟩ ∧ Q g ∧ (∃ cur, Box w g cur 22) ∧ ∀ j x, bs[j]? = some x → ∃ u, w.cell? ⟨g, o + j, none⟩ = some u ∧ BlkAt w Q u x
/-- writes, one behind another -/
def WrAt (w : World) (Q : Nat → Prop) (a : Option Addr) (n c : Nat) (ws : List (Nat × List UInt8)) : Prop :=
  ws.length = n ∧ n ≤ c ∧ c ≤ maxLen ∧ (n = 0 → a = none ∧ c = 0) ∧ (0 < n → ∃ g o, a = some ⟨g, o, none⟩ ∧ Q g ∧ (∃ cur, Box w g cur 57) ∧ ∀ j x, ws[j]? = some x → w.cell? ⟨g, o + j * 2, none⟩ = some (.int .i64 (x.1 : Int)) ∧ ∃ u, w.cell? ⟨g, o + j * 2 + 1, none⟩ = some u ∧ BlkAt w Q u x.2)

theorem BlkAt.move {w w' : World} {Q Q' : Nat → Prop} {v : Value} {xs : List UInt8} (h : BlkAt w Q v xs) (hk : ∀ i, i < w.heap.size → Q i → (∃ cur t, Box w i cur t ∧ t ≠ 41) → w'.heap[i]? = w.heap[i]?) (hQ : ∀ i, i < w.heap.size → Q i → Q' i) : BlkAt w' Q' v xs := by
  obtain ⟨p, o, c, hv, h1, h2, hq, ⟨cur, hb⟩, hl, hc⟩ := h
  have lt : p < w.heap.size := hb.lt
  have e := hk p lt hq ⟨cur, 5, hb, by decide⟩
  exact ⟨p, o, c, hv, h1, h2, hQ p lt hq, ⟨cur, e.trans hb⟩, hl, fun j hj => (World.cell?_of_block (a := ⟨p, o + j, none⟩) e).trans (hc j hj)⟩
theorem BlkAt.rd {w : World} {Q : Nat → Prop} {a : Option Addr} {n c : Nat} {xs : List UInt8} (h : BlkAt w Q (.slice a n c) xs) : n = 4096 ∧ Rd w a xs ∧ xs.length = 4096 ∧ 4096 ≤ c ∧ c ≤ maxLen := by
  obtain ⟨p, o, c', hv, h1, h2, hq, _, hl, hc⟩ := h
  cases hv
  exact ⟨rfl, fun _ => ⟨p, o, rfl, hc⟩, hl, h1, h2⟩
theorem BlkAt.of_row {w : World} {Q : Nat → Prop} {g c : Nat} {xs : List UInt8} (h : RowB w g c xs) (hl : xs.length = 4096) (hq : Q g) : BlkAt w Q (.slice (some ⟨g, 0, none⟩) 4096 c) xs := by
  have hr := h.rd
  obtain ⟨cur, hb, h1, h2, h3, _⟩ := h
  obtain ⟨b, o, e, hc⟩ := hr (by omega)
  cases e
  exact ⟨g, 0, c, rfl, by omega, h2, hq, ⟨cur, hb⟩, hl, hc⟩
theorem SafeAt.move {w w' : World} {Q Q' : Nat → Prop} {a : Option Addr} {n c : Nat} {bs : List (List UInt8)} (h : SafeAt w Q a n c bs) (hk : ∀ i, i < w.heap.size → Q i → (∃ cur t, Box w i cur t ∧ t ≠ 41) → w'.heap[i]? = w.heap[i]?) (hQ : ∀ i, i < w.heap.size → Q i → Q' i) : SafeAt w' Q' a n c bs := by
  obtain ⟨h1, h2, h3, g, o, ha, hq, ⟨cur, hb⟩, hc⟩ := h
  have lt : g < w.heap.size := hb.lt
  have e := hk g lt hq ⟨cur, 22, hb, by decide⟩
  refine ⟨h1, h2, h3, g, o, ha, hQ g lt hq, ⟨cur, e.trans hb⟩, fun j x hx => ?_⟩
  obtain ⟨u, hu, hb⟩ := hc j x hx
  exact ⟨u, (World.cell?_of_block (a := ⟨g, o + j, none⟩) e).trans hu, hb.move hk hQ⟩
theorem WrAt.move {w w' : World} {Q Q' : Nat → Prop} {a : Option Addr} {n c : Nat} {ws : List (Nat × List UInt8)} (h : WrAt w Q a n c ws) (hk : ∀ i, i < w.heap.size → Q i → (∃ cur t, Box w i cur t ∧ t ≠ 41) → w'.heap[i]? = w.heap[i]?) (hQ : ∀ i, i < w.heap.size → Q i → Q' i) : WrAt w' Q' a n c ws := by
  obtain ⟨h1, h2, h3, hz, h4⟩ := h
  refine ⟨h1, h2, h3, hz, fun h0 => ?_⟩
  obtain ⟨g, o, ha, hq, ⟨cur, hb⟩, hc⟩ := h4 h0
  have lt : g < w.heap.size := hb.lt
  have e := hk g lt hq ⟨cur, 57, hb, by decide⟩
  refine ⟨g, o, ha, hQ g lt hq, ⟨cur, e.trans hb⟩, fun j x hx => ?_⟩
  obtain ⟨h5, u, hu, hb⟩ := hc j x hx
  exact ⟨(World.cell?_of_block (a := ⟨g, o + j * 2, none⟩) e).trans h5, u, (World.cell?_of_block (a := ⟨g, o + j * 2 + 1, none⟩) e).trans hu, hb.move hk hQ⟩

/-- what is durable, block by block -/
def safeOf (D : DS) : List (List UInt8) := (List.range D.nb).map (blk D.dur)
theorem safeOf_length (D : DS) : (safeOf D).length = D.nb := by simp [safeOf]
theorem safeOf_get (D : DS) (n : Nat) (h : n < D.nb) : (safeOf D)[n]? = some (blk D.dur n) := by simp [safeOf, h]
/-- the document's disk: its two lists -/
structure RD (w : World) (Q : Nat → Prop) (ad aw : Option Addr) (ns cs nw cw : Nat) (D : DS) : Prop where
  safe : SafeAt w Q ad ns cs (safeOf D)
  wr : WrAt w Q aw nw cw D.uf
  ok : D.Ok
theorem RD.ns {w : World} {Q : Nat → Prop} {ad aw : Option Addr} {ns cs nw cw : Nat} {D : DS} (h : RD w Q ad aw ns cs nw cw D) : ns = D.nb := by have := h.safe.1; rw [safeOf_length] at this; omega
theorem RD.nw {w : World} {Q : Nat → Prop} {ad aw : Option Addr} {ns cs nw cw : Nat} {D : DS} (h : RD w Q ad aw ns cs nw cw D) : nw = D.uf.length := by have := h.wr.1; omega
theorem RD.move {w w' : World} {Q Q' : Nat → Prop} {ad aw : Option Addr} {ns cs nw cw : Nat} {D : DS} (h : RD w Q ad aw ns cs nw cw D) (hk : ∀ i, i < w.heap.size → Q i → (∃ cur t, Box w i cur t ∧ t ≠ 41) → w'.heap[i]? = w.heap[i]?) (hQ : ∀ i, i < w.heap.size → Q i → Q' i) : RD w' Q' ad aw ns cs nw cw D :=
  ⟨h.safe.move hk hQ, h.wr.move hk hQ, h.ok⟩
theorem RD.below {w w' : World} {Q : Nat → Prop} {ad aw : Option Addr} {ns cs nw cw : Nat} {D : DS} (h : RD w Q ad aw ns cs nw cw D) (b : Below w.heap.size w w') : RD w' Q ad aw ns cs nw cw D := h.move (fun i hi _ _ => b.block i hi) (fun _ _ h => h)
theorem RD.upd {w w' : World} {F F' : Nat → Prop} {ad aw : Option Addr} {ns cs nw cw : Nat} {D : DS} (h : RD w (fun i => ¬ F i) ad aw ns cs nw cw D) (u : Upd F w w') (hF : ∀ i, F' i → F i ∨ w.heap.size ≤ i) : RD w' (fun i => ¬ F' i) ad aw ns cs nw cw D :=
  h.move (fun i hi hn _ => u.block i hi hn) (fun i hi hn hf => by rcases hF i hf with h | h; exact hn h; omega)

/-- a box of the law's is written -/
theorem RD.store {w : World} {Q : Nat → Prop} {ad aw : Option Addr} {ns cs nw cw : Nat} {D : DS} (h : RD w Q ad aw ns cs nw cw D) {g j : Nat} {v : Value} {cb : Array Value} (hb : Box w g cb 41) : RD (w.setCell ⟨g, j, none⟩ v) Q ad aw ns cs nw cw D :=
  h.move (fun i _ _ ⟨_, _, hi, ht⟩ => heap_setCell_other w ⟨g, j, none⟩ i v (fun e => hi.ne hb ht e)) (fun _ _ h => h)

def fuseI (f : Fuse) : Int := if f.set then (f.left : Int) else -1
def opA (dn : Bool) (a : Int) : Int := if dn then a else if 0 ≤ a then a - 1 else a
def opE (dn : Bool) (am fl : Int) : Int := if dn then 6 else if am = 0 then 6 else if fl = 0 then 4 else 0
theorem opE_D (D : DS) : opE D.gone (fuseI D.arm) (fuseI D.fail) = (D.operE : Int) := by
  unfold opE DS.operE fuseI Fuse.stops
  cases D.gone <;> simp
  cases h1 : D.arm.set <;> cases h2 : D.fail.set <;> simp
  · by_cases e : D.fail.left = 0 <;> simp [e]
  · by_cases e : D.arm.left = 0 <;> simp [e]
  · by_cases e : D.arm.left = 0 <;> by_cases e' : D.fail.left = 0 <;> simp [e, e']
theorem opA_D (D : DS) (f : Fuse) : opA D.gone (fuseI f) = fuseI (if D.gone then f else f.then) := by
  unfold opA fuseI Fuse.then
  cases D.gone <;> simp
  cases h : f.set <;> simp [h]
  by_cases e : f.left = 0
  · simp [e]
  · have : 0 < f.left := by omega
    simp [this]
    omega
theorem opD_D (D : DS) : (D.gone || (fuseI D.arm == 0)) = D.oper.gone := by
  unfold DS.oper fuseI
  cases h : D.gone
  · simp [Fuse.stops]
    cases h1 : D.arm.set <;> simp
    by_cases e : D.arm.left = 0 <;> simp [e]
  · simp [h]
theorem oper_arm (D : DS) : D.oper.arm = if D.gone then D.arm else D.arm.then := by unfold DS.oper; cases h : D.gone <;> simp
theorem oper_fail (D : DS) : D.oper.fail = if D.gone then D.fail else D.fail.then := by unfold DS.oper; cases h : D.gone <;> simp
theorem fuseI_lo (f : Fuse) : -1 ≤ fuseI f := by unfold fuseI; split <;> omega
theorem fuseI_hi (f : Fuse) (h : f.left < 9223372036854775808) : fuseI f ≤ 9223372036854775807 := by unfold fuseI; split <;> omega
end Go.Proofs.YtdkaacjeogifdaaGreat.Dk

/-
  The document's disk: operation, Armed, Failing, At, Read.
-/
namespace Go.Proofs.YtdkaacjeogifdaaGreat.Dk
open Go.RowKit

theorem Box.drewN {w : World} {g : Nat} {cs : Array Value} {t : TypeId} (h : Box w g cs t) (n : Nat) : Box (w.drewN n) g cs t := h
theorem below_drewN {B : Nat} {a w : World} (h : Below B a w) (n : Nat) : Below B a (w.drewN n) := ⟨h.os, h.tape, h.output, h.size, h.block⟩
theorem Box.all6 {w : World} {g : Nat} {v0 v1 v2 v3 v4 v5 : Value} {t : TypeId} (h : Box w g #[v0, v1, v2, v3, v4, v5] t) : w.cell? ⟨g, 0, none⟩ = some v0 ∧ w.cell? ⟨g, 1, none⟩ = some v1 ∧ w.cell? ⟨g, 2, none⟩ = some v2 ∧ w.cell? ⟨g, 3, none⟩ = some v3 ∧ w.cell? ⟨g, 4, none⟩ = some v4 ∧ w.cell? ⟨g, 5, none⟩ = some v5 :=
  ⟨h.cell 0, h.cell 1, h.cell 2, h.cell 3, h.cell 4, h.cell 5⟩
theorem Box.fr6 {w : World} {g : Nat} {cs : Array Value} {t : TypeId} (h : Box w g cs t) : w.frozen? ⟨g, 0, none⟩ = false ∧ w.frozen? ⟨g, 1, none⟩ = false ∧ w.frozen? ⟨g, 2, none⟩ = false ∧ w.frozen? ⟨g, 3, none⟩ = false ∧ w.frozen? ⟨g, 4, none⟩ = false ∧ w.frozen? ⟨g, 5, none⟩ = false :=
  ⟨h.frozen 0, h.frozen 1, h.frozen 2, h.frozen 3, h.frozen 4, h.frozen 5⟩

set_option maxHeartbeats 2000000 in
theorem rop_at (a1 a2 : Option Addr) (n1 c1 n2 c2 : Nat) (cnt am fl : Int) (dn : Bool) (w : World) (h1 : -1 ≤ am) (h2 : am ≤ 9223372036854775807) (h3 : -1 ≤ fl) (h4 : fl ≤ 9223372036854775807) :
    Calls Tryz.prog 66 #[.agg #[.slice a1 n1 c1, .slice a2 n2 c2, .int .i64 cnt, .bool dn, .int .i64 am, .int .i64 fl]] w fun r w' => r = .returned (.tuple #[.agg #[.slice a1 n1 c1, .slice a2 n2 c2, .int .i64 cnt, .bool (dn || (am == 0)), .int .i64 (opA dn am), .int .i64 (opA dn fl)], .int .i64 (opE dn am fl)]) ∧ Below w.heap.size w w' := by
  have B0 := ((Below.refl w.heap.size w).alloc (Nat.le_refl _) (.cells #[.slice a1 n1 c1, .slice a2 n2 c2, .int .i64 cnt, .bool dn, .int .i64 am, .int .i64 fl] 41)).alloc (by simp) (.cells #[.slice none 0 0, .slice none 0 0, .int .i64 0, .bool false, .int .i64 0, .int .i64 0] 41)
  have x0 := (Box.new w #[.slice a1 n1 c1, .slice a2 n2 c2, .int .i64 cnt, .bool dn, .int .i64 am, .int .i64 fl] 41).alloc (.cells #[.slice none 0 0, .slice none 0 0, .int .i64 0, .bool false, .int .i64 0, .int .i64 0] 41)
  have y0 := Box.new (w.alloc (.cells #[.slice a1 n1 c1, .slice a2 n2 c2, .int .i64 cnt, .bool dn, .int .i64 am, .int .i64 fl] 41)) #[.slice none 0 0, .slice none 0 0, .int .i64 0, .bool false, .int .i64 0, .int .i64 0] 41
  have sz : (w.alloc (.cells #[.slice a1 n1 c1, .slice a2 n2 c2, .int .i64 cnt, .bool dn, .int .i64 am, .int .i64 fl] 41)).heap.size = w.heap.size + 1 := by simp
  rw [sz] at y0
  clear sz
  cases dn
  · rcases (show (am < 0 ∧ ¬ 0 ≤ am ∧ am ≠ 0) ∨ am = 0 ∨ (0 < am ∧ 0 ≤ am ∧ am ≠ 0) by omega) with ⟨e, k1, k2⟩ | rfl | ⟨e, k1, k2⟩ <;> rcases (show (fl < 0 ∧ ¬ 0 ≤ fl ∧ fl ≠ 0) ∨ fl = 0 ∨ (0 < fl ∧ 0 ≤ fl ∧ fl ≠ 0) by omega) with ⟨e', k3, k4⟩ | rfl | ⟨e', k3, k4⟩
    all_goals go_enter Tryz.func66, Tryz.ntmps66
    all_goals go_upto_region 3 with fail
    all_goals go_quiet (fail)
    all_goals
      have x1 := x0.drewN nq
      have y1 := y0.drewN nq
      have B1 := below_drewN B0 nq
      generalize World.drewN _ nq = W at x1 y1 B1 ⊢
      clear x0 y0 B0
      obtain ⟨p0, p1, p2, p3, p4, p5⟩ := x1.all6
      obtain ⟨q0, q1, q2, q3, q4, q5⟩ := y1.all6
      obtain ⟨f0, f1, f2, f3, f4, f5⟩ := x1.fr6
      obtain ⟨g0, g1, g2, g3, g4, g5⟩ := y1.fr6
      go_wp2_with fail
      refine bodyPost_ret (hd := rfl) (hR := ⟨rfl, ?_⟩) (hr := ?_)
      · simp [results, Tryz.results66, go_sem, opA, opE, *] <;> omega
      · repeat (refine Below.setCell ?_ (by simp) _)
        exact B1
  · go_enter Tryz.func66, Tryz.ntmps66
    go_wp2
    refine bodyPost_ret (v := .tuple #[.agg #[.slice a1 n1 c1, .slice a2 n2 c2, .int .i64 cnt, .bool (true || (am == 0)), .int .i64 (opA true am), .int .i64 (opA true fl)], .int .i64 (opE true am fl)]) (by simp [results, Tryz.results66, go_sem, opA, opE]) rfl ⟨rfl, ((Below.refl w.heap.size w).alloc (Nat.le_refl _) _).alloc (by simp) _⟩
end Go.Proofs.YtdkaacjeogifdaaGreat.Dk

/-
  Rows of the document's disk, behind appends.
-/
namespace Go.Proofs.YtdkaacjeogifdaaGreat.Dk
open Go.RowKit

theorem infoW : (Tryz.prog.info? 57).map (fun i => (i.zero, i.size, i.bytes)) = some (some (.agg #[.int .i64 0, .slice none 0 0]), 2, 32) := by kernel_rfl
theorem info27' : (Tryz.prog.info? 22).map (fun i => (i.zero, i.size, i.bytes)) = some (some (.slice none 0 0), 1, 24) := by kernel_rfl

/-- the cells of a row of writes -/
theorem WrAt.cells {w : World} {Q : Nat → Prop} {a : Option Addr} {n c : Nat} {ws : List (Nat × List UInt8)} (h : WrAt w Q a n c ws) (h0 : 0 < n) :
    ∃ g o, a = some ⟨g, o, none⟩ ∧ ∃ news : List Value, news.length = n * 2 ∧ (∀ j u, news[j]? = some u → w.cell? ((⟨g, o, none⟩ : Addr).add j) = some u) ∧ (∀ u ∈ news, u.oneCell' = true) ∧
      ∀ j x, ws[j]? = some x → news[j * 2]? = some (.int .i64 (x.1 : Int)) ∧ ∃ u, news[j * 2 + 1]? = some u ∧ BlkAt w Q u x.2 := by
  obtain ⟨h1, h2, h3, _, h4⟩ := h
  obtain ⟨g, o, ha, hq, _, hc⟩ := h4 h0
  have key : ∀ j, j < n * 2 → ∃ u, w.cell? ⟨g, o + j, none⟩ = some u ∧ u.oneCell' = true := by
    intro j hj
    have hq : j / 2 < ws.length := by omega
    obtain ⟨k1, u, k2, k3⟩ := hc (j / 2) _ (List.getElem?_eq_getElem hq)
    rcases (show j = j / 2 * 2 ∨ j = j / 2 * 2 + 1 by omega) with e | e
    · rw [e]
      exact ⟨_, k1, rfl⟩
    · rw [e, ← Nat.add_assoc]
      obtain ⟨p, o', c', rfl, _⟩ := k3
      exact ⟨_, k2, rfl⟩
  have get : ∀ j, j < n * 2 → ((List.range (n * 2)).map fun j => (w.cell? ⟨g, o + j, none⟩).getD undef)[j]? = w.cell? ⟨g, o + j, none⟩ := by
    intro j hj
    obtain ⟨u, hu, _⟩ := key j hj
    simp [hj, hu]
  refine ⟨g, o, ha, (List.range (n * 2)).map fun j => (w.cell? ⟨g, o + j, none⟩).getD undef, by simp, fun j u hj => ?_, fun u hu => ?_, fun j x hx => ?_⟩
  · have hlt : j < n * 2 := by have := (List.getElem?_eq_some_iff.1 hj).1; simpa using this
    rw [Addr.add_lit, ← get j hlt]
    exact hj
  · obtain ⟨j, hj, rfl⟩ := List.mem_map.1 hu
    obtain ⟨u, hu, h1⟩ := key j (by simpa using hj)
    rw [hu]
    exact h1
  · have hj : j < ws.length := (List.getElem?_eq_some_iff.1 hx).1
    obtain ⟨k1, u, k2, k3⟩ := hc j x hx
    exact ⟨by rw [get _ (by omega)]; exact k1, u, by rw [get _ (by omega), ← Nat.add_assoc]; exact k2, k3⟩

/-- a row of one's own of writes is such a row -/
theorem WrAt.of_own {w : World} {Q : Nat → Prop} {B n : Nat} {v : Value} {xs : List Value} {ws : List (Nat × List UInt8)} (h : w.ownsRow B 57 2 v n xs) (h0 : 0 < n) (hl : ws.length = n) (hQ : ∀ i, B ≤ i → Q i)
    (hx : ∀ j x, ws[j]? = some x → xs[j * 2]? = some (.int .i64 (x.1 : Int)) ∧ ∃ u, xs[j * 2 + 1]? = some u ∧ BlkAt w Q u x.2) : ∃ g c, v = .slice (some ⟨g, 0, none⟩) n c ∧ WrAt w Q (some ⟨g, 0, none⟩) n c ws := by
  have h' := h
  rcases h.2 with ⟨_, h2⟩ | ⟨g, cap, cur, rfl, hB, hg, hnc, hcm, hcs, ht⟩
  · omega
  · refine ⟨g, cap, rfl, hl, hnc, hcm, fun e => by omega, fun _ => ⟨g, 0, rfl, hQ g hB, ⟨cur, hg⟩, fun j x hjx => ?_⟩⟩
    have hj : j < ws.length := (List.getElem?_eq_some_iff.1 hjx).1
    obtain ⟨k1, u, k2, k3⟩ := hx j x hjx
    exact ⟨by rw [Nat.zero_add, h'.cellAt _ (by omega)]; exact k1, u, by rw [Nat.zero_add, h'.cellAt _ (by omega)]; exact k2, k3⟩

/-- a row of one's own of blocks' bytes -/
theorem SafeAt.of_own {w : World} {Q : Nat → Prop} {B n : Nat} {v : Value} {xs : List Value} {bs : List (List UInt8)} (h : w.ownsRow B 22 1 v n xs) (h0 : 0 < n) (hl : bs.length = n) (hQ : ∀ i, B ≤ i → Q i)
    (hx : ∀ (j : Nat) (x : List UInt8), bs[j]? = some x → ∃ u, xs[j]? = some u ∧ BlkAt w Q u x) : ∃ g c, v = .slice (some ⟨g, 0, none⟩) n c ∧ SafeAt w Q (some ⟨g, 0, none⟩) n c bs := by
  have h' := h
  rcases h.2 with ⟨_, h2⟩ | ⟨g, cap, cur, rfl, hB, hg, hnc, hcm, hcs, ht⟩
  · omega
  · refine ⟨g, cap, rfl, hl, hnc, hcm, g, 0, rfl, hQ g hB, ⟨cur, hg⟩, fun j x hjx => ?_⟩
    have hj : j < bs.length := (List.getElem?_eq_some_iff.1 hjx).1
    obtain ⟨u, k2, k3⟩ := hx j x hjx
    exact ⟨u, by rw [Nat.zero_add, h'.cellAt _ (by omega)]; exact k2, k3⟩
/-- the cells of a row of blocks' bytes -/
theorem SafeAt.cells {w : World} {Q : Nat → Prop} {a : Option Addr} {n c : Nat} {bs : List (List UInt8)} (h : SafeAt w Q a n c bs) :
    ∃ g o, a = some ⟨g, o, none⟩ ∧ ∃ news : List Value, news.length = n * 1 ∧ (∀ j u, news[j]? = some u → w.cell? ((⟨g, o, none⟩ : Addr).add j) = some u) ∧ (∀ u ∈ news, u.oneCell' = true) ∧
      ∀ (j : Nat) (x : List UInt8), bs[j]? = some x → ∃ u, news[j]? = some u ∧ BlkAt w Q u x := by
  obtain ⟨h1, h2, h3, g, o, ha, hq, _, hc⟩ := h
  have key : ∀ j, j < n → ∃ u, w.cell? ⟨g, o + j, none⟩ = some u ∧ u.oneCell' = true := by
    intro j hj
    obtain ⟨u, k2, k3⟩ := hc j _ (List.getElem?_eq_getElem (by omega))
    obtain ⟨p, o', c', rfl, _⟩ := k3
    exact ⟨_, k2, rfl⟩
  have get : ∀ j, j < n → ((List.range n).map fun j => (w.cell? ⟨g, o + j, none⟩).getD undef)[j]? = w.cell? ⟨g, o + j, none⟩ := by
    intro j hj
    obtain ⟨u, hu, _⟩ := key j hj
    simp [hj, hu]
  refine ⟨g, o, ha, (List.range n).map fun j => (w.cell? ⟨g, o + j, none⟩).getD undef, by simp, fun j u hj => ?_, fun u hu => ?_, fun j x hx => ?_⟩
  · have hlt : j < n := by have := (List.getElem?_eq_some_iff.1 hj).1; simpa using this
    rw [Addr.add_lit, ← get j hlt]
    exact hj
  · obtain ⟨j, hj, rfl⟩ := List.mem_map.1 hu
    obtain ⟨u, hu, h1⟩ := key j (by simpa using hj)
    rw [hu]
    exact h1
  · have hj : j < bs.length := (List.getElem?_eq_some_iff.1 hx).1
    obtain ⟨u, k2, k3⟩ := hc j x hx
    exact ⟨u, by rw [get _ (by omega)]; exact k2, k3⟩
end Go.Proofs.YtdkaacjeogifdaaGreat.Dk

/-
  The document's disk: Armed, Failing, At, Read.
-/
namespace Go.Proofs.YtdkaacjeogifdaaGreat.Dk
open Go.RowKit

set_option maxRecDepth 100000 in
theorem rat_at {w : World} {Q : Nat → Prop} {a1 a2 : Option Addr} {n1 c1 n2 c2 : Nat} {D : DS} (h : RD w Q a1 a2 n1 c1 n2 c2 D) (cnt am fl : Int) (dn : Bool) (n : Nat) (hn : n < D.nb) :
    Calls Tryz.prog 48 #[.agg #[.slice a1 n1 c1, .slice a2 n2 c2, .int .i64 cnt, .bool dn, .int .i64 am, .int .i64 fl], .int .i64 n] w fun r w' =>
      ∃ p o c, r = .returned (.slice (some ⟨p, o, none⟩) 4096 c) ∧ BlkAt w' Q (.slice (some ⟨p, o, none⟩) 4096 c) (D.stand n) ∧ Below w.heap.size w w' := by
  have B0 := (Below.refl w.heap.size w).alloc (Nat.le_refl _) (.cells #[.slice a1 n1 c1, .slice a2 n2 c2, .int .i64 cnt, .bool dn, .int .i64 am, .int .i64 fl] 41)
  have x0 := Box.new w #[.slice a1 n1 c1, .slice a2 n2 c2, .int .i64 cnt, .bool dn, .int .i64 am, .int .i64 fl] 41
  have R0 := h.below B0
  obtain ⟨W, hW⟩ : ∃ W, W = w.alloc (.cells #[.slice a1 n1 c1, .slice a2 n2 c2, .int .i64 cnt, .bool dn, .int .i64 am, .int .i64 fl] 41) := ⟨_, rfl⟩
  rw [← hW] at B0 x0 R0
  obtain ⟨p0, p1, p2, p3, p4, p5⟩ := x0.all6
  have e1 := h.ns
  have e2 := h.nw
  obtain ⟨sl, sc, sm, g, o, rfl, hq, _, hcell⟩ := R0.safe
  obtain ⟨u, hu, hb⟩ := hcell n _ (safeOf_get D n hn)
  obtain ⟨bp, bo, bc, rfl, hb1⟩ := id hb
  have hnn : (n : Int) < (n1 : Int) := by omega
  have hwr := R0.wr
  have Hw : Hid _ := hwr
  have Hb : Hid _ := hb
  have HW : Hid _ := hW
  have He : Hid _ := e2
  have hn2 : n2 ≤ 9223372036854775807 := by have := hwr.2.2.1; have := hwr.2.1; unfold maxLen at *; omega
  have hn1 : n1 ≤ 9223372036854775807 := by unfold maxLen at sm; omega
  clear hcell hwr hb hb1 hW e2 h R0 sl sc sm e1
  go_enter Tryz.func48, Tryz.ntmps48
  go_upto_region 1 with fail
  rw [← HW.out]
  go_wp2_with fail
  go_loopw [5, 6] (fun v i wr => ∃ (k p' o' c' : Nat), k ≤ n2 ∧ v = .slice (some ⟨p', o', none⟩) 4096 c' ∧ i = .int .i64 k ∧ W = wr ∧ BlkAt W Q (.slice (some ⟨p', o', none⟩) 4096 c') ((lastOf D.uf n k).getD (blk D.dur n))) (fun _ i _ => n2 - (intOf i).toNat)
  case atStart => exact ⟨0, bp, bo, bc, by omega, rfl, rfl, rfl, Hb.out⟩
  case round =>
    clear Hb
    obtain ⟨k, p', o', c', hk, rfl, rfl, rfl, hB⟩ := hrel
    have HB : Hid _ := hB
    clear hB
    by_cases hlt : k < n2
    · have hlt2 : (k : Int) < (n2 : Int) := by omega
      obtain ⟨gw, ow, rfl, hqw, _, hcw⟩ := Hw.out.2.2.2.2 (by omega)
      have hku : k < D.uf.length := by rw [← He.out]; exact hlt
      obtain ⟨ca, ub, cb, hbw⟩ := hcw k _ (List.getElem?_eq_getElem hku)
      obtain ⟨wp, wo, wc, rfl, hbw1⟩ := id hbw
      have hstep : Hid (lastOf D.uf n (k + 1) = if D.uf[k].1 = n then some D.uf[k].2 else lastOf D.uf n k) := by
        show _ = _
        rw [lastOf, List.getElem?_eq_getElem hku]
      have Hbw : Hid _ := hbw
      clear hcw hbw hbw1
      by_cases e : D.uf[k].1 = n
      · rw [e] at ca
        go_wp2_with fail
        go_roundw
        case rel => exact ⟨k + 1, wp, wo, wc, by omega, rfl, by go_num, by trivial, by rw [hstep.out, if_pos e]; exact Hbw.out⟩
        case measure => simp [intOf]; omega
      · have e' : ((D.uf[k].1 : Int) == (n : Int)) = false := by simp; omega
        generalize (D.uf[k]'hku).1 = bb at ca e e' hstep
        go_wp2_with fail
        go_roundw
        case rel => exact ⟨k + 1, p', o', c', by omega, rfl, by go_num, by trivial, by rw [hstep.out, if_neg e]; exact HB.out⟩
        case measure => simp [intOf]; omega
    · have hkn : k = n2 := by omega
      subst k
      go_wp2_with fail
      go_ret
      refine ⟨p', o', c', rfl, ?_, B0⟩
      unfold DS.stand
      rw [← He.out]
      exact HB.out
end Go.Proofs.YtdkaacjeogifdaaGreat.Dk

/-
  A block behind all unflushed writes.
-/
namespace Go.Proofs.YtdkaacjeogifdaaGreat.Dk
theorem blk_carryTo (uf : List (Nat × List UInt8)) (d : List UInt8) (nb k : Nat) (hk : k < nb) (hd : d.length = nb * 4096) (hu : ∀ w ∈ uf, w.1 < nb ∧ w.2.length = 4096) : ∀ n, n ≤ uf.length → (carryTo uf d n).length = nb * 4096 ∧ blk (carryTo uf d n) k = (lastOf uf k n).getD (blk d k)
  | 0, _ => ⟨hd, rfl⟩
  | n + 1, h => by
    obtain ⟨ih1, ih2⟩ := blk_carryTo uf d nb k hk hd hu n (by omega)
    have hg : uf[n]? = some uf[n] := List.getElem?_eq_getElem (by omega)
    obtain ⟨hw1, hw2⟩ := hu uf[n] (List.getElem_mem (by omega))
    have hfit : uf[n].1 * 4096 + 4096 ≤ (carryTo uf d n).length := by rw [ih1]; omega
    rw [carryTo, lastOf, hg]
    refine ⟨?_, ?_⟩
    · show (carry (carryTo uf d n) uf[n].1 uf[n].2 255).length = _
      rw [carry_length _ _ _ _ hfit hw2, ih1]
    · show blk (carry (carryTo uf d n) uf[n].1 uf[n].2 255) k = (if uf[n].1 = k then some uf[n].2 else lastOf uf k n).getD (blk d k)
      by_cases e : uf[n].1 = k
      · rw [if_pos e, ← e, blk_carry_all _ _ _ hfit hw2]
        rfl
      · rw [if_neg e, blk_carry_other _ _ _ _ _ hfit hw2 (fun h => e h.symm), ih2]
end Go.Proofs.YtdkaacjeogifdaaGreat.Dk

/-
  The document's disk: Read, Image.
-/
namespace Go.Proofs.YtdkaacjeogifdaaGreat.Dk
open Go.RowKit

def imgK (D : DS) : Nat → List UInt8
  | 0 => []
  | k + 1 => imgK D k ++ D.stand k
theorem stand_blk (D : DS) (ok : D.Ok) (k : Nat) (hk : k < D.nb) : blk D.image k = D.stand k := (blk_carryTo D.uf D.dur D.nb k hk ok.len ok.each D.uf.length (Nat.le_refl _)).2
theorem image_len (D : DS) (ok : D.Ok) : D.image.length = D.nb * 4096 := by
  have := (blk_carryTo D.uf D.dur D.nb 0 (by have := ok.lo; omega) ok.len ok.each D.uf.length (Nat.le_refl _)).1
  exact this
theorem imgK_take (D : DS) (ok : D.Ok) : ∀ k, k ≤ D.nb → imgK D k = D.image.take (k * 4096)
  | 0, _ => by simp [imgK]
  | k + 1, h => by
    rw [imgK, imgK_take D ok k (by omega), ← stand_blk D ok k (by omega), blk, show (k + 1) * 4096 = k * 4096 + 4096 by omega, List.take_add]
theorem imgK_all (D : DS) (ok : D.Ok) : imgK D D.nb = D.image := by
  rw [imgK_take D ok D.nb (Nat.le_refl _), ← image_len D ok, List.take_length]
theorem stand_len' (D : DS) (ok : D.Ok) (k : Nat) (hk : k < D.nb) : (D.stand k).length = 4096 := by
  rw [← stand_blk D ok k hk]
  exact blk_length _ _ (by rw [image_len D ok]; omega)
theorem owns_ne {w : World} {B g n e z t : Nat} {v : Value} {xs : List Value} {cs : Array Value} (h : w.ownsRow B e z v n xs) (hb : Box w g cs t) (ht : e ≠ t) : some g ≠ v.ownBlock := by
  rcases h.2 with ⟨rfl, _⟩ | ⟨g', cap, cur, rfl, _, hg, _⟩
  · simp [Value.ownBlock]
  · intro e'
    simp [Value.ownBlock] at e'
    subst e'
    exact Box.ne (cs := cur) hg hb ht rfl

set_option maxRecDepth 100000 in
theorem rimage_at {w : World} {Q : Nat → Prop} {a1 a2 : Option Addr} {n1 c1 n2 c2 : Nat} {D : DS} (h : RD w Q a1 a2 n1 c1 n2 c2 D) (cnt am fl : Int) (dn : Bool) :
    Calls Tryz.prog 21 #[.agg #[.slice a1 n1 c1, .slice a2 n2 c2, .int .i64 cnt, .bool dn, .int .i64 am, .int .i64 fl]] w fun r w' =>
      ∃ v, r = .returned v ∧ w'.ownsRow w.heap.size 5 1 v (D.nb * 4096) (bcs D.image) ∧ Below w.heap.size w w' := by
  have B0 := (Below.refl w.heap.size w).alloc (Nat.le_refl _) (.cells #[.slice a1 n1 c1, .slice a2 n2 c2, .int .i64 cnt, .bool dn, .int .i64 am, .int .i64 fl] 41)
  have x0 := Box.new w #[.slice a1 n1 c1, .slice a2 n2 c2, .int .i64 cnt, .bool dn, .int .i64 am, .int .i64 fl] 41
  have e1 := h.ns
  have hhi := h.ok.hi
  have H : Hid (RD w Q a1 a2 n1 c1 n2 c2 D) := h
  have He : Hid _ := e1
  have hn1 : n1 ≤ 512 := by omega
  clear h e1 hhi
  go_enter Tryz.func21, Tryz.ntmps21
  go_wp2_with fail
  go_loopw [3, 4] (fun v i wr => ∃ k : Nat, k ≤ n1 ∧ wr.ownsRow w.heap.size 5 1 v (k * 4096) (bcs (imgK D k)) ∧ i = .int .i64 k ∧ Box wr w.heap.size #[.slice a1 n1 c1, .slice a2 n2 c2, .int .i64 cnt, .bool dn, .int .i64 am, .int .i64 fl] 41 ∧ Below w.heap.size w wr) (fun _ i _ => n1 - (intOf i).toNat)
  case atStart => exact ⟨0, by omega, World.ownsRow_nil _ _ _ _, rfl, x0, B0⟩
  case round =>
    clear x0 B0
    obtain ⟨k, hk, ho, rfl, x, B⟩ := hrel
    obtain ⟨p0, p1, p2, p3, p4, p5⟩ := x.all6
    by_cases hlt : k < n1
    · have hlt2 : (k : Int) < (n1 : Int) := by omega
      have hkD : k < D.nb := by rw [← He.out]; exact hlt
      have cA := rat_at (RD.below H.out (B.mono (Nat.le_refl _))) cnt am fl dn k hkD
      have Ho : Hid _ := ho
      have Hx : Hid _ := x
      have HB : Hid _ := B
      clear ho x B
      go_wp2_with fail
      refine cA.mono ?_
      rintro r w1 ⟨p, o, c, rfl, hb, b1⟩
      clear cA p0 p1 p2 p3 p4 p5
      obtain ⟨_, rd, rl, rc, rm⟩ := hb.rd
      have o1 : w1.ownsRow w.heap.size 5 1 _ (k * 4096) (bcs (imgK D k)) := World.ownsRow.kept (row := none) Ho.out ⟨b1.os, b1.tape, b1.output, b1.size, fun q hq _ => b1.block q hq⟩ (Classical.em _)
      have x1 := Box.below Hx.out b1
      have B1 := HB.out.trans (b1.mono HB.out.size)
      clear Ho Hx HB b1 hb
      go_wp2_with (at_builtin; refine wpList_append_bytes rfl _ _ rfl w.heap.size _ (k * 4096) (bcs (imgK D k)) rfl o1 (some ⟨p, o, none⟩) 4096 c (D.stand k) rfl rl rd (fun h => by cases h) (by omega) B1.size ?_)
      rintro v2 w2 o2 gr
      have x2 : Box w2 w.heap.size _ 41 := (gr.block _ x1.lt (owns_ne o1 x1 (by decide))).trans x1
      have B2 := B1.grown gr B1.size (fun q e => (World.ownsRow.lt o1 q e).1)
      have o2' : w2.ownsRow w.heap.size 5 1 v2 ((k + 1) * 4096) (bcs (imgK D (k + 1))) := by
        rw [imgK, bcs_append, Nat.add_mul, Nat.one_mul]
        exact o2
      have Ho2 : Hid _ := o2'
      clear o2 o2' o1 x1 B1 gr rd
      go_wp2_with fail
      go_roundw
      case rel => exact ⟨k + 1, by omega, Ho2.out, by go_num, x2, B2⟩
      case measure => simp [intOf]; omega
    · have hkn : k = n1 := by omega
      rw [hkn] at ho
      have Ho : Hid _ := ho
      clear ho hkn
      go_wp2_with fail
      go_ret
      refine ⟨_, rfl, ?_, B⟩
      have e := imgK_all D H.out.ok
      rw [← He.out] at e
      rw [← He.out, ← e]
      exact Ho.out
end Go.Proofs.YtdkaacjeogifdaaGreat.Dk
