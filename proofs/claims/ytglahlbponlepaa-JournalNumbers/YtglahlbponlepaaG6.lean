/-
  DkMake, DkCarry, DkAll, DkFlush, DkCrash, DkLate, DkWrite, DkTold, JRow, JPut, LaOf, JOpen, JFlush, RgRing, RgAsk: put together.
-/
import Derived.Test.YtglahlbponlepaaG5
import Derived.Deep.Cut
import Derived.Deep.RegionHeld3
import Derived.Test.YtglahlbponlepaaRows
import Derived.WalkKit
import Derived.WalkSpells
import Derived.WalkLawsBesides
import Derived.Laws.BytesArg
import Derived.ProofKit
import Derived.Laws.StructEq
import Derived.BigQuiet
import Derived.Deep.RegionWith
/-
  Disks that are made: Clone, holding, New, Load.
-/
namespace Go.Proofs.Ytglahlbponlepaa.Dk
open Go.RowKit

theorem eqlSlice (ad : Addr) (n cap : Nat) (u : World) : (binOp .eql 64 (.slice (some ad) n cap) (.slice none 0 0)).run Try.prog u = .ok (.bool false) u := by
  have h : ∀ d : Nat, (Op.equalIn (d + 1) 64 (.slice (some ad) n cap) (.slice none 0 0)).run Try.prog u = .ok false u := fun d => by
    simp [Op.equalIn, run_underlying Try.underlying64]
  simp only [binOp]
  simp [Op.equal, Op.maxDepth, h 9999]

theorem clone_at (cap n : Nat) (ad : Addr) (xs : List UInt8) (w : World) (hl : xs.length = n) (h0 : 0 < n) (hn : n ≤ 100000000) (hr : Rd w (some ad) xs) :
    Calls Try.prog 75 #[.slice (some ad) n cap] w fun e w' => ∃ g cap', e = .returned (.slice (some ⟨g, 0, none⟩) n cap') ∧ w.heap.size ≤ g ∧ RowB w' g cap' xs ∧ Below w.heap.size w w' := by
  obtain ⟨i0, hi, hz0, hz1, hz2⟩ := info_parts info5
  have hb0 : Below w.heap.size w (w.alloc (.cells #[] 5)) := (Below.refl _ _).alloc (Nat.le_refl _) _
  have hr1 := hr.below hb0 (Nat.le_refl _)
  have ho : (w.alloc (.cells #[] 5)).ownsRow w.heap.size 5 1 (.slice (some ⟨w.heap.size, 0, none⟩) 0 0) 0 [] := World.ownsRow_made w #[] 0 (Nat.le_refl _) (by simp [maxLen]) rfl
  have Hl : Hid _ := hl
  clear hl
  have z0 := hb0.size
  have he := eqlSlice ad n cap
  go_enter Try.func75, Try.ntmps75
  go_wp2_with (at_builtin; refine wpList_append_bytes rfl _ _ rfl w.heap.size (.slice (some ⟨w.heap.size, 0, none⟩) 0 0) 0 [] rfl ho (some ad) n cap xs rfl Hl.out hr1 (by simp) (by omega) z0 ?_)
  intro v1 w1 o1 g1
  obtain ⟨g, cap', rfl, hg, hrow⟩ := RowB.owns o1 h0
  have B1 : Below w.heap.size w w1 := hb0.grown g1 z0 (fun k hk => by simp [Value.ownBlock] at hk; omega)
  clear o1 g1 ho hr1 hb0
  go_wp2
  go_ret
  exact ⟨g, cap', rfl, hg, hrow, B1⟩

theorem holding_at (gd cd nb : Nat) (d : List UInt8) (w : World) (hrow : RowB w gd cd d) (hl : d.length = nb * 4096) (h1 : 1 ≤ nb) (h2 : nb ≤ 512) :
    Calls Try.prog 53 #[.slice (some ⟨gd, 0, none⟩) (nb * 4096) cd] w fun e w' => e = .returned (.pointer (some ⟨w.heap.size, 0, none⟩)) ∧ IsDisk w' w.heap.size (DS.new nb d) (fun i => i = w.heap.size ∨ i = gd) ∧ Below w.heap.size w w' := by
  have b1 := Box.new w (diskC w.heap.size (.slice (some ⟨gd, 0, none⟩) (nb * 4096) cd) (.slice none 0 0) (DS.new nb d)) 82
  have B1 := (Below.refl w.heap.size w).alloc (Nat.le_refl _) (.cells (diskC w.heap.size (.slice (some ⟨gd, 0, none⟩) (nb * 4096) cd) (.slice none 0 0) (DS.new nb d)) 82)
  have hlt := hrow.lt
  have hs := B1.size
  have hlies : Lies _ w.heap.size (DS.new nb d) (fun i => i = w.heap.size ∨ i = gd) gd cd (.slice none 0 0) [] :=
    { box := b1, dur := hrow.same (B1.block gd hlt), row := World.ownsRow_nil _ _ _ _, len := rfl, each := fun k h => by simp at h, fg := .inl rfl, fd := .inr rfl, fu := fun k h => by simp [Value.ownBlock] at h,
      flt := fun i hi => by
        rcases hi with rfl | rfl
        · exact b1.lt
        · omega
      ok := DS.Ok.new hl h1 h2 }
  clear b1 hrow hl
  go_enter Try.func53, Try.ntmps53
  go_wp2
  go_ret
  exact ⟨rfl, ⟨_, _, _, _, hlies⟩, B1⟩

theorem made_zeros (n : Nat) : (madeCells #[Value.int .u8 0] n) = (bcs (List.replicate n 0)).toArray := made_zero n

/-- noughts -/
def nought (n : Nat) : List UInt8 := List.replicate n 0
theorem nought_length (n : Nat) : (nought n).length = n := by simp [nought]

theorem make_run (n : Nat) (hn : n ≤ 281474976710656) (u : World) : (Instr.makeSlice 64 (.int .i64 (n : Int)) (.int .i64 (n : Int))).run Try.prog u =
    .ok (.slice (some ⟨u.heap.size, 0, none⟩) n n) (u.alloc (.cells (bcs (nought n)).toArray 5)) := by
  obtain ⟨i0, hi, hz0, hz1, hz2⟩ := info_parts info5
  have h := run_make (P := Try.prog) u 64 5 i0 (.int .u8 0) Try.underlying64 hi hz0 .i64 .i64 (n : Int) (n : Int) (by omega) (Int.le_refl _) (by rw [hz2]; omega) (by omega)
  have e : ((n : Int)).toNat = n := by omega
  rw [e, hz1, Nat.mul_one] at h
  have e2 : madeCells #[.int .u8 0] n = (bcs (nought n)).toArray := made_zero n
  rw [← e2]
  exact h

/-- a disk in new blocks -/
def NewDisk (w w' : World) (g : Nat) (D : DS) : Prop := ∃ F : Nat → Prop, IsDisk w' g D F ∧ (∀ i, F i → w.heap.size ≤ i) ∧ Below w.heap.size w w'

theorem new_at (nb : Nat) (w : World) (h1 : 1 ≤ nb) (h2 : nb ≤ 512) :
    Calls Try.prog 23 #[.int .i64 (nb : Int)] w fun e w' => ∃ g, e = .returned (.tuple #[.pointer (some ⟨g, 0, none⟩), .int .i64 0]) ∧ NewDisk w w' g (DS.new nb (nought (nb * 4096))) := by
  have c := rightSize_at nb w
  have hc : (decide ((1 : Int) ≤ (nb : Int)) && decide ((nb : Int) ≤ 512)) = true := by simp; omega
  rw [hc] at c
  have hm := make_run (nb * 4096) (by omega)
  have em : ((nb * 4096 : Nat) : Int) = (nb : Int) * 4096 := by omega
  rw [em] at hm
  clear em
  have own := own_lit w (nought (nb * 4096))
  have B1 := (Below.refl w.heap.size w).alloc (Nat.le_refl _) (.cells (bcs (nought (nb * 4096))).toArray 5)
  have rw0 := RowB.own own (by rw [nought_length]; unfold maxLen; omega)
  rw [nought_length] at rw0
  have hlen : (nought (nb * 4096)).length = nb * 4096 := nought_length _
  generalize nought (nb * 4096) = Z at hm own B1 rw0 hlen ⊢
  obtain ⟨U, hU⟩ : ∃ U, U = w.alloc (.cells (bcs Z).toArray 5) := ⟨_, rfl⟩
  rw [← hU] at B1 rw0
  have ch := holding_at w.heap.size (nb * 4096) nb Z U rw0 hlen h1 h2
  have HU : Hid _ := hU
  clear own hU hlen hc
  go_enter Try.func23, Try.ntmps23
  go_wp2_with fail
  refine c.mono ?_
  rintro e w' ⟨rfl, rfl⟩
  go_wp2_with fail
  rw [← HU.out]
  refine ch.mono ?_
  rintro e w2 ⟨rfl, hd, b2⟩
  have B2 := B1.trans (b2.mono B1.size)
  have z1 := B1.size
  clear hm ch
  go_wp2
  go_ret2
  exact ⟨_, rfl, _, hd, fun i hi => by rcases hi with rfl | rfl; exact z1; exact Nat.le_refl _, B2⟩

theorem new_bad (n : Int) (w : World) (h : n < 1 ∨ 512 < n) :
    Calls Try.prog 23 #[.int .i64 n] w fun e w' => e = .returned (.tuple #[.pointer none, .int .i64 2]) ∧ w = w' := by
  have c := rightSize_at n w
  have hc : (decide ((1 : Int) ≤ n) && decide (n ≤ 512)) = false := by simp; omega
  rw [hc] at c
  clear hc h
  go_enter Try.func23, Try.ntmps23
  go_wp2_with fail
  refine c.mono ?_
  rintro e w' ⟨rfl, rfl⟩
  go_wp2
  go_ret2
  exact ⟨rfl, rfl⟩

end Go.Proofs.Ytglahlbponlepaa.Dk

/-
  Writes that are carried out upon an image.
-/
namespace Go.Proofs.Ytglahlbponlepaa.Dk
open Go.RowKit

theorem Upd.box {F : Nat → Prop} {w w' : World} {g : Nat} {cs : Array Value} {t : TypeId} (h : Upd F w w') (hb : Box w g cs t) (hg : ¬ F g) : Box w' g cs t := (h.block g hb.lt hg).trans hb
theorem Upd.rowB {F : Nat → Prop} {w w' : World} {g cap : Nat} {ys : List UInt8} (h : Upd F w w') (hb : RowB w g cap ys) (hg : ¬ F g) : RowB w' g cap ys := hb.same (h.block g hb.lt hg)
theorem Rd.part {w : World} {g o : Nat} {xs : List UInt8} (h : Rd w (some ⟨g, o, none⟩) xs) (k n : Nat) : Rd w (some ⟨g, o + k, none⟩) ((xs.drop k).take n) := fun hp => by
  have hk : k < xs.length := by simp at hp; omega
  obtain ⟨b', o', he, hc⟩ := h (by omega)
  simp only [Option.some.injEq, Addr.mk.injEq, and_true] at he
  obtain ⟨rfl, rfl⟩ := he
  refine ⟨g, o + k, rfl, fun j hj => ?_⟩
  have hj' : k + j < xs.length := by simp at hj; omega
  rw [Nat.add_assoc, hc (k + j) hj']
  simp

theorem and_one8 (a : Nat) (ha : a < 256) : bits .and .u8 (a : Int) 1 = ((a % 2 : Nat) : Int) := by
  have h := bits_mask .u8 8 (by decide) (fun n h0 h1 => by rw [IntKind.wrap_u8]; omega) 1 (by decide) (a : Int) (by omega) (by omega)
  simpa using h
theorem bitI (m k : Nat) (hm : m < 256) : (bits .and .u8 ((m : Int) / 2 ^ k) 1 == 1) = bit m k := by
  unfold bit
  have e : ((m : Int) / 2 ^ k) = ((m / 2 ^ k : Nat) : Int) := by push_cast; rfl
  rw [e, and_one8 _ (Nat.lt_of_le_of_lt (Nat.div_le_self _ _) hm)]
  rcases Nat.mod_two_eq_zero_or_one (m / 2 ^ k) with h | h <;> rw [h] <;> rfl

theorem part_i (g o len cap n size : Nat) (N S : Int) (w : World) (hN : N = (n : Int)) (hS : S = (size : Int)) (hf : n * size + size ≤ cap) (hc : cap ≤ 9223372036854775807) (hs : 0 < size) :
    Calls Try.prog 89 #[.slice (some ⟨g, o, none⟩) len cap, .int .i64 N, .int .i64 S] w fun e w' => e = .returned (.slice (some ⟨g, o + n * size, none⟩) size size) ∧ w = w' := by
  subst hN hS
  exact part_at g o len cap n size w hf hc hs

set_option maxRecDepth 100000 in
set_option maxHeartbeats 1000000 in
theorem carryOut_at (b gk ck gd cd L m : Nat) (data d : List UInt8) (w : World) (hk : RowB w gk ck data) (hd : RowB w gd cd d) (hne : gk ≠ gd) (hdl : data.length = 4096) (hL : d.length = L) (hb : b * 4096 + 4096 ≤ L) (hm : m < 256) :
    Calls Try.prog 82 #[.agg #[.int .i64 (b : Int), .slice (some ⟨gk, 0, none⟩) 4096 ck], .slice (some ⟨gd, 0, none⟩) L cd, .int .u8 (m : Int)] w fun e w' => e = .returned (.tuple #[]) ∧ RowB w' gd cd (carry d b data m) ∧ Upd (fun i => i = gd) w w' := by
  have x0 := Box.new w #[.int .i64 (b : Int), .slice (some ⟨gk, 0, none⟩) 4096 ck] 103
  have U0 := (Upd.refl (fun i => i = gd) w).alloc (.cells #[.int .i64 (b : Int), .slice (some ⟨gk, 0, none⟩) 4096 ck] 103)
  have hglt := hd.lt
  have hklt := hk.lt
  have hcd : L ≤ cd ∧ cd ≤ 9223372036854775807 := by
    obtain ⟨_, _, h1, h2, _⟩ := hd
    unfold maxLen at h2
    omega
  have hck : 4096 ≤ ck ∧ ck ≤ 9223372036854775807 := by
    obtain ⟨_, _, h1, h2, _⟩ := hk
    unfold maxLen at h2
    omega
  go_enter Try.func82, Try.ntmps82
  go_wp2_with fail
  obtain ⟨W, hW⟩ : ∃ W, W = w.alloc (.cells #[.int .i64 (b : Int), .slice (some ⟨gk, 0, none⟩) 4096 ck] 103) := ⟨_, rfl⟩
  rw [← hW] at x0 U0 ⊢
  have k0 := U0.rowB hk (fun h => hne h)
  have d0 : RowB W gd cd d := hd.same (by rw [hW]; exact Below.heap_alloc w _ gd hglt)
  obtain ⟨G, hG⟩ : ∃ G, G = w.heap.size := ⟨_, rfl⟩
  rw [← hG] at x0 ⊢
  have HL : Hid _ := hL
  have Hdl : Hid _ := hdl
  have hGd : G ≠ gd := by omega
  clear hW hG hk hd hL hdl hglt hklt
  refine (part_i gd 0 L cd b 4096 _ _ W rfl rfl (by omega) (by omega) (by omega)).mono ?_
  rintro e w' ⟨rfl, rfl⟩
  rw [Nat.zero_add]
  obtain ⟨O, hO⟩ : ∃ O, O = b * 4096 := ⟨_, rfl⟩
  rw [← hO]
  have HO : Hid _ := hO
  rw [← hO] at hb
  clear hO
  go_wp2_with fail
  go_loopw [12] (fun i wr => ∃ k : Nat, k ≤ 8 ∧ i = .int .i64 k ∧ Box wr G #[.int .i64 (b : Int), .slice (some ⟨gk, 0, none⟩) 4096 ck] 103 ∧ RowB wr gd cd (carryN d b data m k) ∧ RowB wr gk ck data ∧ Upd (fun i => i = gd) w wr) (fun i _ => 8 - (intOf i).toNat)
  case atStart => exact ⟨0, Nat.zero_le _, rfl, x0, d0, k0, U0⟩
  case round =>
    obtain ⟨k, hk, rfl, x, hd, hkd, U⟩ := hrel
    clear x0 d0 k0 U0
    by_cases hlt : k < 8
    · have hlt2 : (k : Int) < 8 := by omega
      have hbi := bitI m k hm
      have hcl : (carryN d b data m k).length = L := by rw [carryN_length d b data m (by rw [HL.out, ← HO.out]; exact hb) Hdl.out k hk, HL.out]
      have hsucc : carryN d b data m (k + 1) = if bit m k then putAt (carryN d b data m k) (b * 4096 + k * 512) (sec data k) else carryN d b data m k := rfl
      have Hcl : Hid _ := hcl
      have Hsucc : Hid _ := hsucc
      clear hcl hsucc
      cases hbit : bit m k with
      | false =>
        rw [hbit] at hbi
        have Hs : Hid (carryN d b data m (k + 1) = carryN d b data m k) := by have := Hsucc.out; rw [hbit] at this; exact this
        clear Hsucc
        go_wp2_with fail
        go_roundw
        case rel => exact ⟨k + 1, by omega, by go_num, x, by rw [Hs.out]; exact hd, hkd, U⟩
        case measure => simp [intOf]; omega
      | true =>
        rw [hbit] at hbi
        have Hs : Hid (carryN d b data m (k + 1) = putAt (carryN d b data m k) (O + k * 512) (sec data k)) := by have := Hsucc.out; rw [hbit, ← HO.out] at this; exact this
        clear Hsucc
        have hsl := sec_length data k Hdl.out hlt
        have x1 := x.cell 1
        simp only [List.getElem?_toArray, List.getElem?_cons_zero, List.getElem?_cons_succ] at x1
        have dr : RowB wr.drew gd cd (carryN d b data m k) := hd
        have kr : RowB wr.drew gk ck data := hkd
        have rs : Rd wr.drew (some ⟨gk, k * 512, none⟩) (sec data k) := by have := kr.rd.part (k * 512) 512; rw [Nat.zero_add] at this; exact this
        obtain ⟨V, hcp, hV, hgV⟩ := copy_row gd cd (O + k * 512) 512 512 (some ⟨gk, k * 512, none⟩) 512 (sec data k) (carryN d b data m k) wr.drew dr rs (by omega) (by rw [Hcl.out, hsl]; omega) (by omega)
        rw [hsl] at hcp
        have U2 : Upd (fun i => i = gd) w V := (U.drew).grown hgV (fun q e => by cases e; exact .inl rfl)
        have xV : Box V G #[.int .i64 (b : Int), .slice (some ⟨gk, 0, none⟩) 4096 ck] 103 := (hgV.block G x.lt (by simpa using hGd)).trans x
        have kV : RowB V gk ck data := kr.same (hgV.block gk kr.lt (by simpa using hne))
        clear hsl hgV dr kr rs
        go_wp2_with fail
        refine wp_region_any (by kernel_rfl) ?_
        change wpAny _ _ _ _ _ _ _ (World.drew _)
        refine wpAny_take (i := 0) (v := ?_) rfl (by kernel_rfl) (by kernel_rfl) (by kernel_rfl) (fun _ _ _ h => h) (Or.inl ⟨by rfl, ?_⟩) ?_
        rotate_left
        · intro w
          go_simp
          with_reducible rfl
        refine wpAny_take (i := 1) (v := ?_) rfl (by kernel_rfl) (by kernel_rfl) (by kernel_rfl) (fun _ _ _ h => h) (Or.inl ⟨by rfl, ?_⟩) ?_
        rotate_left
        · intro w
          go_simp
          with_reducible rfl
        refine wpAny_take (i := 3) (v := ?_) rfl (by kernel_rfl) (by kernel_rfl) (by kernel_rfl) (fun _ _ _ h => h) (Or.inl ⟨by rfl, ?_⟩) ?_
        rotate_left
        · intro w
          go_simp
          with_reducible rfl
        refine wpAny_take (i := 5) (v := ?_) rfl (by kernel_rfl) (by kernel_rfl) (by kernel_rfl) (fun _ _ _ h => h) (Or.inl ⟨by rfl, ?_⟩) ?_
        rotate_left
        · intro w
          go_simp
          with_reducible rfl
        simp only [Act.put, List.setIfInBounds_toArray, List.set_cons_zero, List.set_cons_succ, List.getElem_toArray, List.getElem_cons_zero, List.getElem_cons_succ]
        refine wpAny_of_class (C := SlotsCells [(23, .pointer (some ⟨G, 1, none⟩))] [(⟨G, 1, none⟩, .slice (some ⟨gk, 0, none⟩) 4096 ck)]) _ _ _ _ ?_
        have hq : ∀ u : World, Box u G #[.int .i64 (b : Int), .slice (some ⟨gk, 0, none⟩) 4096 ck] 103 → ∀ q ∈ ([(⟨G, 1, none⟩, .slice (some ⟨gk, 0, none⟩) 4096 ck)] : List (Addr × Value)), u.cell? q.1 = some q.2 := by
          intro u hu q hq
          simp at hq
          subst hq
          exact hu.cell 1
        have xd : Box wr.drew G #[.int .i64 (b : Int), .slice (some ⟨gk, 0, none⟩) 4096 ck] 103 := x
        refine wpAnyC_take (i := 4) (v := .slice (some ⟨gk, 0, none⟩) 4096 ck) rfl (by kernel_rfl) (by kernel_rfl) (by kernel_rfl) (fun _ _ _ h => h) ?_ (fun fr u h => (SlotsCells.put 24 _ (by rfl)).1 h) (fun fr u h => (SlotsCells.put 24 _ (by rfl)).2 h) ?_ ?_
        · intro fr u hh
          obtain ⟨e1, e2⟩ := hh.load (s := 23) (p := ⟨G, 1, none⟩) (v := .slice (some ⟨gk, 0, none⟩) 4096 ck) (by simp) (by simp)
          exact ⟨rfl, by simp [execOp, e1, go_sem, e2]⟩
        · refine ⟨fun p hp => ?_, hq _ xd⟩
          simp at hp
          subst hp
          rfl
        simp only [Act.put, List.setIfInBounds_toArray, List.set_cons_zero, List.set_cons_succ, List.getElem_toArray, List.getElem_cons_zero, List.getElem_cons_succ]
        refine wpAnyC_one (i := 2) (by kernel_rfl) rfl (fun K hK => ?_)
        go_simp
        refine (part_i gd O 4096 4096 k 512 _ _ wr.drew rfl rfl (by omega) (by omega) (by omega)).mono ?_
        rintro e w' ⟨rfl, rfl⟩
        refine hK _ _ ⟨?_, ?_⟩
        · refine ⟨fun p hp => ?_, hq _ xd⟩
          simp at hp
          subst hp
          rfl
        clear hK K
        refine wpAnyC_one (i := 6) (by kernel_rfl) rfl (fun K hK => ?_)
        go_simp
        refine (part_i gk 0 4096 ck k 512 _ _ wr.drew rfl rfl (by omega) (by omega) (by omega)).mono ?_
        rintro e w' ⟨rfl, rfl⟩
        rw [Nat.zero_add]
        refine hK _ _ ⟨?_, ?_⟩
        · refine ⟨fun p hp => ?_, hq _ xd⟩
          simp at hp
          subst hp
          rfl
        clear hK K
        refine wpAnyC_one (i := 7) (by kernel_rfl) rfl (fun K hK => ?_)
        go_simp
        refine hK _ _ ⟨?_, ?_⟩
        · refine ⟨fun p hp => ?_, hq _ xV⟩
          simp at hp
          subst hp
          rfl
        clear hK K hcp
        refine wpAnyC_done (by kernel_rfl) ?_ _
        go_wp2_with fail
        go_roundw
        case rel => exact ⟨k + 1, by omega, by go_num, xV, by rw [Hs.out]; exact hV, kV, U2⟩
        case measure => simp [intOf]; omega
    · obtain rfl : k = 8 := by omega
      go_wp2
      go_end0
      exact ⟨rfl, hd, U⟩
end Go.Proofs.Ytglahlbponlepaa.Dk

/-
  All unflushed writes carried out; Flush, Image, Crash.
-/
namespace Go.Proofs.Ytglahlbponlepaa.Dk
open Go.RowKit

/-- the row of the unflushed writes, cell by cell -/
theorem Lies.writes {w : World} {g : Nat} {D : DS} {F : Nat → Prop} {gd cd : Nat} {vu : Value} {ps : List (Nat × Nat × Nat)} (h : Lies w g D F gd cd vu ps) (h0 : 0 < D.uf.length) :
    ∃ gv cu cur, vu = .slice (some ⟨gv, 0, none⟩) D.uf.length cu ∧ D.uf.length ≤ cu ∧ cu ≤ 9223372036854775807 ∧ Box w gv cur 103 ∧
      ∀ k (hk : k < D.uf.length) (hp : k < ps.length), w.cell? ⟨gv, 0 + k * 2, none⟩ = some (.int .i64 (D.uf[k].1 : Int)) ∧ w.cell? ⟨gv, 0 + k * 2 + 1, none⟩ = some (.slice (some ⟨ps[k].2.1, 0, none⟩) 4096 ps[k].2.2) := by
  rcases h.row.2 with ⟨_, h1⟩ | ⟨gv, cu, cur, hv, hb, hg, hn, hm, hs, ht⟩
  · omega
  · refine ⟨gv, cu, cur, hv, hn, by unfold maxLen at hm; omega, hg, fun k hk hkp => ?_⟩
    obtain ⟨a0, a1⟩ := wcs_at ps k hkp
    have hc := h.row.cells (g := gv) (by rw [hv]; rfl)
    have c0 := hc _ _ a0
    have c1 := hc _ _ a1
    rw [Addr.add_lit] at c0 c1
    obtain ⟨e, _⟩ := h.each k hkp hk
    rw [e] at c0
    exact ⟨c0, c1⟩

set_option maxRecDepth 100000 in
set_option maxHeartbeats 1000000 in
theorem carryAll_at {g : Nat} {w : World} {D : DS} {F : Nat → Prop} {gd cd : Nat} {vu : Value} {ps : List (Nat × Nat × Nat)} (h : Lies w g D F gd cd vu ps) (gi ci L : Nat) (d : List UInt8) (hi : RowB w gi ci d) (hL : L = D.nb * 4096) (hd : d.length = L) (hne : ∀ k (hk : k < ps.length), ps[k].2.1 ≠ gi) :
    Calls Try.prog 67 #[.pointer (some ⟨g, 0, none⟩), .slice (some ⟨gi, 0, none⟩) L ci] w fun e w' => e = .returned (.tuple #[]) ∧ RowB w' gi ci (carryTo D.uf d D.uf.length) ∧ Upd (fun i => i = gi) w w' := by
  obtain ⟨_, _, c2, _⟩ := box_cells h.box
  by_cases h0 : 0 < D.uf.length
  · obtain ⟨gv, cu, cur, rfl, hcu, hmu, hbv, hcells⟩ := h.writes h0
    have hgi : gv ≠ gi := by
      obtain ⟨cur', hb', _⟩ := hi
      exact hbv.ne hb' (by decide)
    have Hcells : Hid _ := hcells
    have hlt := hbv.lt
    have Hd : Hid _ := hd
    have HL : Hid _ := hL
    have H : Hid (Lies w g D F gd cd (.slice (some ⟨gv, 0, none⟩) D.uf.length cu) ps) := h
    obtain ⟨n, hn⟩ : ∃ n, n = D.uf.length := ⟨_, rfl⟩
    rw [← hn] at hcu c2 ⊢
    have Hn : Hid _ := hn
    clear hcells hd hL h hn h0
    go_enter Try.func67, Try.ntmps67
    go_wp2_with fail
    go_loopw [11] (fun i wr => ∃ k : Nat, k ≤ n ∧ i = .int .i64 k ∧ RowB wr gi ci (carryTo D.uf d k) ∧ Upd (fun i => i = gi) w wr) (fun i _ => n - (intOf i).toNat)
    case atStart => exact ⟨0, Nat.zero_le _, rfl, hi, Upd.refl _ _⟩
    case round =>
      obtain ⟨k, hk, rfl, hrow, U⟩ := hrel
      clear hi
      by_cases hlt' : k < n
      · have hk' : k < D.uf.length := by rw [← Hn.out]; exact hlt'
        have hkp : k < ps.length := by rw [H.out.len]; exact hk'
        obtain ⟨a0, a1⟩ := Hcells.out k hk' hkp
        obtain ⟨_, hdat, _, _⟩ := H.out.each k hkp hk'
        obtain ⟨hb1, hb2⟩ := H.out.ok.at k hk'
        have hps := hne k hkp
        have hsucc : Hid (carryTo D.uf d (k + 1) = carry (carryTo D.uf d k) D.uf[k].1 D.uf[k].2 255) := carryTo_succ D.uf d k hk'
        have hlen : Hid ((carryTo D.uf d k).length = L) := by rw [carryTo_length D H.out.ok d (by rw [Hd.out, HL.out, H.out.ok.len]) k]; exact Hd.out
        have hroom : D.uf[k].1 * 4096 + 4096 ≤ L := by rw [HL.out]; omega
        generalize (ps[k]'hkp).2.1 = gk at a1 hdat hps
        generalize (ps[k]'hkp).2.2 = ck at a1 hdat
        generalize (D.uf[k]'hk').2 = data at hdat hb2 hsucc
        generalize (D.uf[k]'hk').1 = bn at a0 hsucc hb1 hroom
        have a0' := (World.cell?_of_block (a := ⟨gv, 0 + k * 2, none⟩) (U.block gv hlt hgi)).trans a0
        have a1' := (World.cell?_of_block (a := ⟨gv, 0 + k * 2 + 1, none⟩) (U.block gv hlt hgi)).trans a1
        simp only [Nat.zero_add] at a0' a1'
        have hdat' := U.rowB hdat hps
        have bA := (Below.refl wr.heap.size wr).alloc (Nat.le_refl _) (.cells #[.int .i64 (bn : Int), .slice (some ⟨gk, 0, none⟩) 4096 ck] 103)
        have U1 := U.alloc (.cells #[.int .i64 (bn : Int), .slice (some ⟨gk, 0, none⟩) 4096 ck] 103)
        have hrow1 := hrow.same (bA.block gi hrow.lt)
        have hdat1 := hdat'.same (bA.block gk hdat'.lt)
        have Hb2 : Hid _ := hb2
        clear a0 a1 hdat hdat' hb2 bA
        go_wp2_with fail
        refine (carryOut_at bn gk ck gi ci L 255 data (carryTo D.uf d k) _ hdat1 hrow1 hps Hb2.out hlen.out hroom (by omega)).mono ?_
        rintro e w1 ⟨rfl, r1, u1⟩
        have U2 := U1.trans u1 (fun i e => .inl e)
        clear hrow hrow1 hdat1 U1 u1 U
        go_wp2
        go_roundw
        case rel => exact ⟨k + 1, by omega, by go_num, by rw [hsucc.out]; exact r1, U2⟩
        case measure => simp [intOf]; omega
      · obtain rfl : k = n := by omega
        go_wp2
        go_end0
        exact ⟨rfl, hrow, U⟩
  · have hn : D.uf.length = 0 := by omega
    rw [hn]
    have hv : vu = .slice none 0 0 ∨ ∃ ad cu, vu = .slice (some ad) 0 cu := by
      rcases h.row.2 with ⟨h1, _⟩ | ⟨gv, cu, cur, hv, _⟩
      · exact .inl h1
      · exact .inr ⟨⟨gv, 0, none⟩, cu, by rw [hv, hn]⟩
    obtain ⟨av, cu, rfl⟩ : ∃ av cu, vu = .slice av 0 cu := by
      rcases hv with rfl | ⟨ad, cu, rfl⟩
      · exact ⟨none, 0, rfl⟩
      · exact ⟨some ad, cu, rfl⟩
    clear hv hd
    go_enter Try.func67, Try.ntmps67
    go_wp2_with fail
    refine wp_loop_rounds 1 ?_
    rw [rounds_succ]
    go_wp2
    go_end0
    exact ⟨rfl, hi, Upd.refl _ _⟩
end Go.Proofs.Ytglahlbponlepaa.Dk

/-
  Flush, Image.
-/
namespace Go.Proofs.Ytglahlbponlepaa.Dk
open Go.RowKit

/-- The unflushed writes are gone, what is durable has turned. -/
theorem Lies.emptied {w w1 : World} {g : Nat} {D : DS} {F : Nat → Prop} {gd cd : Nat} {vu : Value} {ps : List (Nat × Nat × Nat)} (h : Lies w g D F gd cd vu ps) (d : List UInt8) (hu : Upd (fun i => i = gd) w w1) (hr : RowB w1 gd cd d) (hl : d.length = D.dur.length) :
    Lies (w1.setCell ⟨g, 2, none⟩ (.slice none 0 0)) g { D with dur := d, uf := [] } F gd cd (.slice none 0 0) [] ∧ Upd F w (w1.setCell ⟨g, 2, none⟩ (.slice none 0 0)) := by
  have hne : g ≠ gd := by
    obtain ⟨cur, hb, _⟩ := h.dur
    exact h.box.ne hb (by decide)
  have b1 := hu.box h.box hne
  have b2 := b1.store 2 (.slice none 0 0)
  have gr := grown_store w1 g 2 (.slice none 0 0)
  refine ⟨⟨b2, hr.same (gr.block gd hr.lt (by simpa using hne.symm)), World.ownsRow_nil _ _ _ _, rfl, fun k hk => by simp at hk, h.fg, h.fd, fun k hk => by simp [Value.ownBlock] at hk, fun i hi => Nat.lt_of_lt_of_le (h.flt i hi) (Nat.le_trans hu.size gr.size), ?_⟩, ?_⟩
  · exact ⟨by show d.length = _; rw [hl, h.ok.len], h.ok.lo, h.ok.hi, by simp, h.ok.arm, h.ok.fail⟩
  · have u0 : Upd F w w1 := ⟨hu.os, hu.tape, hu.output, hu.size, fun k hk hn => hu.block k hk (fun e => hn (by rw [e]; exact h.fd))⟩
    exact u0.setCell (.inl h.fg) _

set_option maxRecDepth 100000 in
theorem flush_at {g : Nat} {w : World} {D : DS} {F : Nat → Prop} (hd : IsDisk w g D F) :
    Calls Try.prog 33 #[.pointer (some ⟨g, 0, none⟩)] w fun e w' => e = .returned (.int .i64 (D.operE : Int)) ∧ IsDisk w' g D.flush F ∧ Upd F w w' := by
  obtain ⟨gd, cd, vu, ps, h⟩ := hd
  have c := isMade_at h
  have hfl : Hid (D.flush = if D.operE = 0 then { D.oper with dur := D.image, uf := [] } else D.oper) := rfl
  have cO := operation_at h
  obtain ⟨E, hE⟩ : ∃ E, E = D.operE := ⟨_, rfl⟩
  rw [← hE] at hfl cO ⊢
  clear hE
  have hnb := D.oper_nb
  have hdur := D.oper_dur
  have huf := D.oper_uf
  have hfg := h.fg
  have himg : Hid (D.image = carryTo D.uf D.dur D.uf.length) := rfl
  generalize D.flush = Fl at hfl ⊢
  have Hnb : Hid _ := hnb
  have Hdur : Hid _ := hdur
  have Huf : Hid _ := huf
  clear hnb hdur huf
  by_cases h0 : E = 0
  · subst h0
    have hfl' : Hid (Fl = { D.oper with dur := D.image, uf := [] }) := by have := hfl.out; rw [if_pos rfl] at this; exact this
    clear hfl
    go_enter Try.func33, Try.ntmps33
    go_wp2_with fail
    refine c.mono ?_
    rintro e w' ⟨rfl, rfl⟩
    go_wp2_with fail
    refine cO.mono ?_
    rintro e w1 ⟨rfl, h1, g1⟩
    clear cO c
    obtain ⟨_, c1, _⟩ := box_cells h1.box
    have hneq : ∀ k (hk : k < ps.length), ps[k].2.1 ≠ gd := fun k hk => (h1.each k hk (by rw [← h1.len]; exact hk)).2.2.1
    go_wp2_with fail
    refine (carryAll_at h1 gd cd (D.oper.nb * 4096) D.oper.dur h1.dur rfl (by rw [h1.ok.len]) hneq).mono ?_
    rintro e w2 ⟨rfl, r2, u2⟩
    have hlen : (carryTo D.oper.uf D.oper.dur D.oper.uf.length).length = D.oper.dur.length := carryTo_length D.oper h1.ok D.oper.dur rfl _
    obtain ⟨hl, hu⟩ := h1.emptied _ u2 r2 hlen
    have hu0 : Upd F w w1 := (Upd.refl F w).grown g1 (fun k e => by cases e; exact .inl hfg)
    have hu3 := hu0.trans hu (fun i hi => .inl hi)
    rw [Huf.out, Hdur.out, ← himg.out] at hl
    have b2 : Box w2 g _ 82 := u2.box h1.box (by
      obtain ⟨cur, hb, _⟩ := h1.dur
      exact h1.box.ne hb (by decide))
    have f2 := b2.frozen 2
    obtain ⟨_, _, c2, _⟩ := box_cells b2
    clear c1 r2 u2 hu hu0 b2 h1 g1 hlen
    go_wp2
    go_ret
    rw [hfl'.out]
    exact ⟨rfl, ⟨_, _, _, _, hl⟩, hu3⟩
  · have hfl' : Hid (Fl = D.oper) := by have := hfl.out; rw [if_neg h0] at this; exact this
    have h0' : ((E : Int) != 0) = true := by simp; omega
    clear hfl h0
    go_enter Try.func33, Try.ntmps33
    go_wp2_with fail
    refine c.mono ?_
    rintro e w' ⟨rfl, rfl⟩
    go_wp2_with fail
    refine cO.mono ?_
    rintro e w1 ⟨rfl, h1, g1⟩
    have hu0 : Upd F w w1 := (Upd.refl F w).grown g1 (fun k e => by cases e; exact .inl hfg)
    clear cO c
    go_wp2
    go_ret
    rw [hfl'.out]
    exact ⟨rfl, ⟨_, _, _, _, h1⟩, hu0⟩

end Go.Proofs.Ytglahlbponlepaa.Dk

/-
  Crash.
-/
namespace Go.Proofs.Ytglahlbponlepaa.Dk
open Go.RowKit

/-- These bools lie where a says (of none nothing is asked). -/
def RdBl (w : World) (a : Option Addr) (ks : List Bool) : Prop :=
  0 < ks.length → ∃ b o, a = some ⟨b, o, none⟩ ∧ ∀ j (h : j < ks.length), w.cell? ⟨b, o + j, none⟩ = some (.bool ks[j])
theorem RdBl.nil (w : World) (a : Option Addr) : RdBl w a [] := fun h => absurd h (by simp)

theorem keeps_lt {ks : List Bool} {k : Nat} (h : k < ks.length) : keeps ks k = ks[k] := by simp [keeps, List.getElem?_eq_getElem h]
theorem keeps_ge {ks : List Bool} {k : Nat} (h : ¬ k < ks.length) : keeps ks k = false := by simp [keeps, List.getElem?_eq_none (Nat.le_of_not_lt h)]

end Go.Proofs.Ytglahlbponlepaa.Dk

/-
  As Loads: but operations that wait for the taken one (late) may leave the class.
-/
namespace Go.Proofs.Ytglahlbponlepaa.Dk

section
variable {P : Program} {ops : Array Oper} {Q : Exit → Act → World → Prop} {md : Region.Mode} {C : Act → World → Prop} {late : List Nat}

/-- Whatever order the draw gives: it ends in Q, and every step stays in the class, but for the late ones. -/
def wpAnyD (P : Program) (md : Region.Mode) (ops : Array Oper) (Q : Exit → Act → World → Prop) (C : Act → World → Prop) (late : List Nat) : Nat → Array Bool → Act → World → Prop
  | 0, listed, a, w => Region.ready md ops listed = [] ∧ Q .normal a w
  | fuel + 1, listed, a, w => (Region.ready md ops listed = [] → Q .normal a w) ∧
    ∀ i ∈ Region.ready md ops listed, wpOp P ops Q i (fun a' w' => (late.contains i = true ∨ C a' w') ∧ wpAnyD P md ops Q C late fuel (listed.setIfInBounds i true) a' w') a w

theorem wpAny_of_late : ∀ (fuel : Nat) (listed : Array Bool) (a : Act) (w : World), wpAnyD P md ops Q C late fuel listed a w → wpAny P md ops Q fuel listed a w
  | 0, _, _, _, h => h
  | fuel + 1, _, _, _, h => ⟨h.1, fun i hi => wpOp_mono (fun a' w' h' => wpAny_of_late fuel _ a' w' h'.2) (h.2 i hi)⟩

/-- Each late operation waits for operation i. -/
def waits (md : Region.Mode) (ops : Array Oper) (late : List Nat) (i : Nat) : Bool := late.all fun j => match ops[j]? with | some o => o.after.any fun e => Region.binds md e && e.on == i | none => true

theorem wpAnyD_first {i : Nat} {oi : Oper} {v : Value} (hi : ops[i]? = some oi) (hs : Region.noSelect ops = true) (hl : waits md ops late i = true)
    (hQ : ∀ c a w, Q (.panic c) (a.put oi.dst v) w → Q (.panic c) a w) (hg : Gives P ops C oi v) (hdn : ∀ a w, C (a.put oi.dst v) w → C a w) (hup : ∀ a w, C a w → C (a.put oi.dst v) w) :
    ∀ (fuel : Nat) (listed : Array Bool) (a : Act) (w : World),
      (∀ j oj, ops[j]? = some oj → j ≠ i → listed.getD j true = false → (∀ e ∈ oj.after, Region.binds md e = true → e.on ≠ i) → oi.apart ops oj = true) →
      i ∈ Region.ready md ops listed → C a w →
      wpAnyD P md ops Q C late fuel (listed.setIfInBounds i true) (a.put oi.dst v) w → wpAnyD P md ops Q C late (fuel + 1) listed a w
  | fuel, listed, a, w, hfree, hr, hc, H => by
    refine ⟨fun h => (by rw [h] at hr; cases hr), fun j hj => ?_⟩
    by_cases hji : j = i
    · subst hji
      exact hg.wpOp hi hc ⟨.inr (hup a w hc), H⟩
    · have hm := ready_mono hj hji
      cases fuel with
      | zero =>
        rw [H.1] at hm
        cases hm
      | succ fuel =>
        obtain ⟨hjun, oj, hoj, hall⟩ := mem_ready.1 hj
        have hnot : ∀ e ∈ oj.after, Region.binds md e = true → e.on ≠ i := fun e he hb heq => by
          have h1 := hall e he hb
          have h0 := (mem_ready.1 hr).1
          rw [heq] at h1
          rcases Nat.lt_or_ge i listed.size with h' | h'
          · simp [h'] at h0 h1; rw [h0] at h1; cases h1
          · simp [Array.getElem?_eq_none h'] at h1
        have hnl : ¬ late.contains j = true := fun hc => by
          have h1 := (List.all_eq_true.1 hl) j (by simpa using hc)
          rw [hoj] at h1
          simp only [Array.any_eq_true, Bool.and_eq_true, beq_iff_eq] at h1
          obtain ⟨k, hk, hb, he⟩ := h1
          exact hnot _ (Array.getElem_mem hk) hb he
        have h2 := wpOp_put (oi := standIn oi v) (v := v) hoj (standIn_apart (hfree j oj hoj hji hjun hnot)) (fun cs b h => by cases h) (fun cs b => Region.noSelect_spec hs j oj cs b hoj) hQ (standIn_yields oi v a) (H.2 j hm)
        have hfree' : ∀ k ok, ops[k]? = some ok → k ≠ i → (listed.setIfInBounds j true).getD k true = false →
            (∀ e ∈ ok.after, Region.binds md e = true → e.on ≠ i) → oi.apart ops ok = true := fun k ok hk hki hun hno => by
          refine hfree k ok hk hki ?_ hno
          by_cases hjk : j = k
          · subst hjk; exact hjun
          · rw [getD_set_ne true hjk] at hun; exact hun
        refine wpOp_mono (fun a' w' h3 => ?_) h2
        have hc' := hdn a' w' (h3.2.1.resolve_left hnl)
        refine ⟨.inr hc', wpAnyD_first hi hs hl hQ hg hdn hup fuel (listed.setIfInBounds j true) a' w' hfree' (ready_mono hr (Ne.symm hji)) hc' ?_⟩
        rw [Array.setIfInBounds_comm _ _ hji]
        exact h3.2.2

/-- A load is taken first. -/
theorem wpAnyD_take {i : Nat} {oi : Oper} {v : Value} {fuel : Nat} {listed : Array Bool} {a : Act} {w : World} (hi : ops[i]? = some oi) (hs : Region.noSelect ops = true) (hl : waits md ops late i = true)
    (hf : Region.free md ops listed i = true) (hr : (Region.ready md ops listed).contains i = true)
    (hQ : ∀ c a w, Q (.panic c) (a.put oi.dst v) w → Q (.panic c) a w) (hg : Gives P ops C oi v) (hdn : ∀ a w, C (a.put oi.dst v) w → C a w) (hup : ∀ a w, C a w → C (a.put oi.dst v) w)
    (hc : C a w) (h : wpAnyD P md ops Q C late fuel (listed.setIfInBounds i true) (a.put oi.dst v) w) : wpAnyD P md ops Q C late (fuel + 1) listed a w :=
  wpAnyD_first hi hs hl hQ hg hdn hup fuel listed a w (Region.free_spec hi hf) (by simpa using hr) hc h

/-- One operation alone may come up. -/
theorem wpAnyD_one {i : Nat} {o : Oper} {fuel : Nat} {listed : Array Bool} {a : Act} {w : World} (hr : Region.ready md ops listed = [i]) (ho : ops[i]? = some o)
    (h : ∀ K' : Act → World → Prop, (∀ a w, ((late.contains i = true ∨ C a w) ∧ wpAnyD P md ops Q C late fuel (listed.setIfInBounds i true) a w) → K' a w) → if Region.wanted o (yielded ops a.tmps) = true then Oper.wp P o a w K' Q else K' (a.put o.dst undef) w) :
    wpAnyD P md ops Q C late (fuel + 1) listed a w := by
  refine ⟨fun h0 => (by rw [hr] at h0; cases h0), fun j hj => ?_⟩
  rw [hr] at hj
  obtain rfl : j = i := by simpa using hj
  exact wpOp_step ho h

theorem wpAnyD_done {listed : Array Bool} {a : Act} {w : World} (hr : Region.ready md ops listed = []) (h : Q .normal a w) : ∀ fuel, wpAnyD P md ops Q C late fuel listed a w
  | 0 => ⟨hr, h⟩
  | _ + 1 => ⟨fun _ => h, by rw [hr]; simp⟩
end
end Go.Proofs.Ytglahlbponlepaa.Dk

/-
  Write; Writes, Pending.
-/
namespace Go.Proofs.Ytglahlbponlepaa.Dk
open Go.RowKit

theorem info79 : (Try.prog.info? 103).map (fun i => (i.zero, i.size, i.bytes)) = some (some (.agg #[.int .i64 0, .slice none 0 0]), 2, 32) := by kernel_rfl

/-- An append leaves the row where it was, or lays it anew. -/
theorem append_where {P : Program} {w : World} {t ty e : TypeId} {i : TypeInfo} {z : Value} {size bytes : Nat} (ht : P.underlying t = some (.slice e)) (hi : P.info? e = some i) (hz : i.zero = some z) (hsize : i.size = size) (hby : i.bytes = bytes) (hzs : z.cells.size = size) (hsz : 0 < size)
    {v : Value} {n : Nat} {xs : List Value} (hown : w.ownsRow 0 e size v n xs) {ad : Addr} {m c : Nat} {news : List Value} (hl : news.length = m * size) (hnews : ∀ j u, news[j]? = some u → w.cell? (ad.add j) = some u) (h1 : ∀ u ∈ news, u.oneCell' = true)
    (h63 : n + m ≤ maxLen) (hbytes : (n + m) * bytes ≤ 140737488355328) :
    ∃ v' w', (Builtin.append_ #[t, t] ty #[v, .slice (some ad) m c]).run P w = .ok v' w' ∧ w'.ownsRow 0 e size v' (n + m) (xs ++ news) ∧ w.grownBy w' v.ownBlock ∧ (∀ k, v'.ownBlock = some k → v.ownBlock = some k ∨ w.heap.size ≤ k) := by
  obtain ⟨v', w', hr, h2, h3, _⟩ := run_append_own (P := P) w 0 t ty e i z size bytes ht hi hz hsize hby hzs hsz v n xs hown ad m c news hl hnews h1 h63 hbytes (Nat.zero_le _)
  refine ⟨v', w', hr, h2, h3, fun k hk => ?_⟩
  rcases hown.2 with ⟨rfl, rfl⟩ | ⟨g, cap, cur, rfl, hbg, hg, hnc, hcm, hcs, htake⟩
  · have hx : xs = [] := List.eq_nil_of_length_eq_zero (by simpa using hown.1)
    subst hx
    obtain ⟨v2, w2, hr2, o2, _⟩ := run_append_own (P := P) w w.heap.size t ty e i z size bytes ht hi hz hsize hby hzs hsz (.slice none 0 0) 0 [] (World.ownsRow_nil _ _ _ _) ad m c news hl hnews h1 h63 hbytes (Nat.le_refl _)
    rw [hr] at hr2
    simp only [Result.ok.injEq] at hr2
    obtain ⟨rfl, rfl⟩ := hr2
    exact .inr (o2.lt k hk).1
  · by_cases hroom : n + m ≤ cap
    · have hr2 := run_append_room (P := P) w t ty e i ht hi g n cap cur hg ad m c news (by rw [hsize]; exact hl) hnews h1 hroom (by rw [hsize, hl, hcs, ← Nat.add_mul]; exact Nat.mul_le_mul_right _ hroom)
      rw [hr] at hr2
      simp only [Result.ok.injEq] at hr2
      obtain ⟨rfl, _⟩ := hr2
      exact .inl hk
    · have hr2 := run_append_grow (P := P) w t ty e i z ht hi hz ⟨g, 0, none⟩ n cap xs (by rw [hsize]; exact hown.1) (hown.cells (g := g) rfl) ad m c news (by rw [hsize]; exact hl) hnews (by omega) (by simp only [maxLen] at h63; omega) (growslice_fits (by omega) (by rw [hby]; exact hbytes))
      rw [hr] at hr2
      simp only [Result.ok.injEq] at hr2
      obtain ⟨rfl, _⟩ := hr2
      simp [Value.ownBlock] at hk
      exact .inr (by omega)

/-- .. as one step of a region that draws its order. -/
theorem step_append_where {P : Program} {ops : Array Oper} {o : Oper} {a : Act} {w : World} {K : Act → World → Prop} {Q : Exit → Act → World → Prop} {E : Prop}
    (hg : o.guard = none) (s x : Operand) (t : TypeId) (hop : o.op = Op.call { callee := Callee.builtin Builtin.append, args := #[s, x], argTypes := #[t, t] })
    (e : TypeId) (i : TypeInfo) (z : Value) (size bytes : Nat) (h1 : P.underlying t = some (.slice e)) (h2 : P.info? e = some i) (h3 : i.zero = some z) (h4 : i.size = size) (h5 : i.bytes = bytes) (h6 : z.cells.size = size) (h7 : 0 < size)
    (v : Value) (n : Nat) (olds : List Value) (hs : a.eval s = v) (hown : w.ownsRow 0 e size v n olds)
    (ad : Addr) (m c : Nat) (news : List Value) (hx : a.eval x = .slice (some ad) m c) (hn : news.length = m * size) (hc : ∀ j u, news[j]? = some u → w.cell? (ad.add j) = some u) (h1c : ∀ u ∈ news, u.oneCell' = true)
    (b1 : n + m ≤ maxLen) (b2 : (n + m) * bytes ≤ 140737488355328)
    (hK : ∀ v' w', w'.ownsRow 0 e size v' (n + m) (olds ++ news) → w.grownBy w' v.ownBlock → (∀ k, v'.ownBlock = some k → v.ownBlock = some k ∨ w.heap.size ≤ k) → K (a.put o.dst v') w') :
    if Region.wanted o (yielded ops a.tmps) = true then Oper.wp P o a w K Q else E := by
  have hw : Region.wanted o (yielded ops a.tmps) = true := by simp [Region.wanted, hg]
  rw [if_pos hw]
  obtain ⟨v', w', hrun, r1, r2, r3⟩ := append_where (P := P) (ty := o.type) (c := c) h1 h2 h3 h4 h5 h6 h7 hown hn hc h1c b1 b2
  unfold Oper.wp
  simp [execOp, hop, resolve, invoke, builtin, hs, hx, hrun, Result.andThen]
  exact hK v' w' r1 r2 r3

/-- A write more stands in the row. -/
theorem Lies.added {w w3 w4 : World} {g : Nat} {D : DS} {F : Nat → Prop} {gd cd : Nat} {vu v' : Value} {ps : List (Nat × Nat × Nat)} (h : Lies w g D F gd cd vu ps) (hb : Below w.heap.size w w3) (bn gk ck : Nat) (b : List UInt8) (hrow : RowB w3 gk ck b) (hgk : w.heap.size ≤ gk) (hbn : bn < D.nb) (hbl : b.length = 4096)
    (ho : w4.ownsRow 0 103 2 v' (D.uf.length + 1) (wcs (ps ++ [(bn, gk, ck)]))) (hg : w3.grownBy w4 vu.ownBlock) (hv : ∀ k, v'.ownBlock = some k → vu.ownBlock = some k ∨ w.heap.size ≤ k) :
    ∃ F' : Nat → Prop, Lies (w4.setCell ⟨g, 2, none⟩ v') g { D with uf := D.uf ++ [(bn, b)] } F' gd cd v' (ps ++ [(bn, gk, ck)]) ∧ (∀ i, F' i → F i ∨ w.heap.size ≤ i) ∧ Upd F w (w4.setCell ⟨g, 2, none⟩ v') ∧ Box w4 g (diskC g (.slice (some ⟨gd, 0, none⟩) (D.nb * 4096) cd) vu D) 82 := by
  have h3 := h.below hb
  have gr := grown_store w4 g 2 v'
  have nrow : ∀ {q : Nat} {cs : Array Value} {t : TypeId}, Box w3 q cs t → t ≠ 103 → some q ≠ vu.ownBlock := by
    intro q cs t hq ht e
    rcases h3.row.2 with ⟨rfl, _⟩ | ⟨gv, cu, cur, rfl, _, hgv, _⟩
    · simp [Value.ownBlock] at e
    · simp [Value.ownBlock] at e
      subst e
      exact Box.ne (w := w3) hq hgv ht rfl
  have hbox4 : Box w4 g _ 82 := (hg.block g h3.box.lt (nrow h3.box (by decide))).trans h3.box
  have hrowB : ∀ {q c : Nat} {ys : List UInt8}, RowB w3 q c ys → RowB (w4.setCell ⟨g, 2, none⟩ v') q c ys := by
    intro q c ys hq
    have hq0 := hq
    obtain ⟨cur, hb1, _⟩ := hq
    have h4 := hq0.same (hg.block q hb1.lt (nrow hb1 (by decide)))
    obtain ⟨cur4, hb4, _⟩ := h4
    exact (hq0.same (hg.block q hb1.lt (nrow hb1 (by decide)))).same (gr.block q hb4.lt (by simpa using hb4.ne hbox4 (by decide)))
  have hkg : gk ≠ gd := by have := h.dur.lt; omega
  have hok : DS.Ok { D with uf := D.uf ++ [(bn, b)] } := ⟨h.ok.len, h.ok.lo, h.ok.hi, fun p hp => by
    rcases List.mem_append.1 hp with hp | hp
    · exact h.ok.each p hp
    · simp at hp; subst hp; exact ⟨hbn, hbl⟩, h.ok.arm, h.ok.fail⟩
  refine ⟨fun i => F i ∨ i = gk ∨ v'.ownBlock = some i, ⟨hbox4.store 2 v', hrowB h3.dur, ?_, ?_, ?_, .inl h.fg, .inl h.fd, fun k hk => .inr (.inr hk), ?_, hok⟩, ?_, ?_⟩
  · have ho' := ho.kept gr (by
      rcases ho.2 with ⟨rfl, _⟩ | ⟨gv, cu, cur, rfl, _, hgv, _⟩
      · exact .inl rfl
      · exact .inr (by simp only [Value.ownBlock, ne_eq, Option.some.injEq]; exact Box.ne (w := w4) (t := 103) hgv hbox4 (by decide)))
    show World.ownsRow _ _ _ _ _ (D.uf ++ [(bn, b)]).length _
    rw [List.length_append]
    exact ho'
  · show (ps ++ [(bn, gk, ck)]).length = (D.uf ++ [(bn, b)]).length
    simp [h.len]
  · intro k h1 h2
    have hl := h.len
    by_cases hk : k < ps.length
    · have hk2 : k < D.uf.length := by omega
      obtain ⟨a1, a2, a3, a4⟩ := h3.each k hk hk2
      have e1 : (ps ++ [(bn, gk, ck)])[k] = ps[k] := List.getElem_append_left hk
      have e2 : (D.uf ++ [(bn, b)])[k]'(by simp; omega) = D.uf[k] := List.getElem_append_left hk2
      show (ps ++ [(bn, gk, ck)])[k].1 = ((D.uf ++ [(bn, b)])[k]'(by simp; omega)).1 ∧ RowB _ (ps ++ [(bn, gk, ck)])[k].2.1 (ps ++ [(bn, gk, ck)])[k].2.2 ((D.uf ++ [(bn, b)])[k]'(by simp; omega)).2 ∧ _
      rw [e1, e2]
      exact ⟨a1, hrowB a2, a3, .inl a4⟩
    · have hke : k = ps.length := by simp at h1; omega
      subst hke
      have e1 : (ps ++ [(bn, gk, ck)])[ps.length] = (bn, gk, ck) := by simp
      have e2 : (D.uf ++ [(bn, b)])[ps.length]'(by simp; omega) = (bn, b) := by simp [hl]
      show (ps ++ [(bn, gk, ck)])[ps.length].1 = ((D.uf ++ [(bn, b)])[ps.length]'(by simp; omega)).1 ∧ RowB _ (ps ++ [(bn, gk, ck)])[ps.length].2.1 (ps ++ [(bn, gk, ck)])[ps.length].2.2 ((D.uf ++ [(bn, b)])[ps.length]'(by simp; omega)).2 ∧ _
      rw [e1, e2]
      exact ⟨rfl, hrowB hrow, hkg, .inr (.inl rfl)⟩
  · intro i hi
    have z1 := hb.size
    have z2 := hg.size
    have z3 := gr.size
    rcases hi with hi | rfl | hi
    · have := h.flt i hi; omega
    · have := hrow.lt; omega
    · have := (ho.lt i hi).2; omega
  · intro i hi
    rcases hi with hi | rfl | hi
    · exact .inl hi
    · exact .inr hgk
    · rcases hv i hi with h1 | h1
      · exact .inl (h.fu i h1)
      · exact .inr h1
  · have u1 : Upd F w w3 := Upd.of_below hb
    have u2 : Upd F w w4 := u1.grown hg (fun k hk => .inl (h.fu k hk))
    exact ⟨u2.setCell (.inl h.fg) _, hbox4⟩

def writeF (D : DS) : Prop := D.uf.length ≤ 1000000 ∧ D.n ≤ 1000000

set_option maxRecDepth 100000 in
set_option maxHeartbeats 2000000 in
theorem write_ok {g : Nat} {w : World} {D : DS} {F : Nat → Prop} {gd cd : Nat} {vu : Value} {ps : List (Nat × Nat × Nat)} (h : Lies w g D F gd cd vu ps) (bn cb : Nat) (ad : Addr) (b : List UInt8) (hb : b.length = 4096) (hbn : bn < D.nb) (hE : D.operE = 0) (hlim : writeF D) (hr : Rd w (some ad) b) (hF : ¬ F ad.block) :
    Calls Try.prog 64 #[.pointer (some ⟨g, 0, none⟩), .int .i64 (bn : Int), .slice (some ad) 4096 cb] w fun e w' => e = .returned (.int .i64 0) ∧ (∃ F', IsDisk w' g { D.oper with uf := D.uf ++ [(bn, b)], n := D.n + 1 } F' ∧ ∀ i, F' i → F i ∨ w.heap.size ≤ i) ∧ Upd F w w' := by
  have c := isMade_at h
  have cH := has_at h (bn : Int)
  have hhas : D.has (bn : Int) = true := by simp [DS.has]; omega
  rw [hhas] at cH
  have cO := operation_at h
  rw [hE] at cO
  obtain ⟨i0, hi, hz0, hz1, hz2⟩ := info_parts info79
  obtain ⟨l1, l2⟩ := hlim
  have Hb : Hid _ := hb
  have hfg := h.fg
  have Hnb : Hid _ := D.oper_nb
  have Huf : Hid _ := D.oper_uf
  have Hn : Hid _ := D.oper_n
  have hsp : ad = ⟨ad.block, ad.off, none⟩ := by
    obtain ⟨b', o', he, _⟩ := hr (by omega)
    obtain rfl := Option.some.inj he
    rfl
  obtain ⟨ab, ao, asp⟩ := ad
  simp only [Addr.mk.injEq, true_and] at hsp
  subst hsp
  clear hhas hE hb
  go_enter Try.func64, Try.ntmps64
  go_wp2_with fail
  refine c.mono ?_
  rintro e w' ⟨rfl, rfl⟩
  go_wp2_with fail
  refine cH.mono ?_
  rintro e w' ⟨rfl, rfl⟩
  go_wp2_with fail
  refine cO.mono ?_
  rintro e w1 ⟨rfl, h1, g1⟩
  have hr1 : Rd w1 (some ⟨ab, ao, none⟩) b := hr.upd ((Upd.refl F w).grown g1 (fun k e => by cases e; exact .inl hfg)) hF
  have U1 : Upd F w w1 := (Upd.refl F w).grown g1 (fun k e => by cases e; exact .inl hfg)
  clear c cH cO g1
  obtain ⟨_, _, c2, _⟩ := box_cells h1.box
  go_wp2_with fail
  refine wp_region_any (by kernel_rfl) ?_
  change wpAny _ _ _ _ _ _ _ (World.drew _)
  refine wpAny_take (i := 0) (v := ?_) rfl (by kernel_rfl) (by kernel_rfl) (by kernel_rfl) (fun _ _ _ h => h) (Or.inl ⟨by rfl, ?_⟩) ?_
  rotate_left
  · intro w
    go_simp
    with_reducible rfl
  refine wpAny_take (i := 1) (v := ?_) rfl (by kernel_rfl) (by kernel_rfl) (by kernel_rfl) (fun _ _ _ h => h) (Or.inl ⟨by rfl, ?_⟩) ?_
  rotate_left
  · intro w
    go_simp
    with_reducible rfl
  refine wpAny_take (i := 2) (v := ?_) rfl (by kernel_rfl) (by kernel_rfl) (by kernel_rfl) (fun _ _ _ h => h) (Or.inl ⟨by rfl, ?_⟩) ?_
  rotate_left
  · intro w
    go_simp
    with_reducible rfl
  refine wpAny_take (i := 3) (v := ?_) rfl (by kernel_rfl) (by kernel_rfl) (by kernel_rfl) (fun _ _ _ h => h) (Or.inl ⟨by rfl, ?_⟩) ?_
  rotate_left
  · intro w
    go_simp
    with_reducible rfl
  refine wpAny_take (i := 5) (v := ?_) rfl (by kernel_rfl) (by kernel_rfl) (by kernel_rfl) (fun _ _ _ h => h) (Or.inl ⟨by rfl, ?_⟩) ?_
  rotate_left
  · intro w
    go_simp
    with_reducible rfl
  refine wpAny_take (i := 6) (v := ?_) rfl (by kernel_rfl) (by kernel_rfl) (by kernel_rfl) (fun _ _ _ h => h) (Or.inl ⟨by rfl, ?_⟩) ?_
  rotate_left
  · intro w
    go_simp
    with_reducible rfl
  simp only [Act.put, List.setIfInBounds_toArray, List.set_cons_zero, List.set_cons_succ, List.getElem_toArray, List.getElem_cons_zero, List.getElem_cons_succ]
  have hvu : ∃ av cu, vu = .slice av D.uf.length cu := by
    have hrow := h.row
    rcases hrow.2 with ⟨h1, h2⟩ | ⟨gv, cu, cur, hv, _⟩
    · exact ⟨none, 0, by rw [h1, h2]⟩
    · exact ⟨some ⟨gv, 0, none⟩, cu, hv⟩
  obtain ⟨av, cu, rfl⟩ := hvu
  obtain ⟨n, hn⟩ : ∃ n, n = D.uf.length := ⟨_, rfl⟩
  rw [← hn] at h1 c2 l1
  have Hnn : Hid _ := hn
  clear hn
  refine wpAny_of_late (C := SlotsCells [(31, .pointer (some ⟨g, 2, none⟩))] [(⟨g, 2, none⟩, .slice av n cu)]) (late := [10, 11, 12, 13]) _ _ _ _ ?_
  have h2 : Lies w1.drew g D.oper F gd cd (.slice av n cu) ps := h1.below (Below.refl _ _).drew
  have c2d : w1.drew.cell? ⟨g, 2, none⟩ = some (.slice av n cu) := c2
  have hr2 : Rd w1.drew (some ⟨ab, ao, none⟩) b := hr1
  have U2 : Upd F w w1.drew := U1.drew
  have hgl : g < w1.drew.heap.size := h2.box.lt
  obtain ⟨W, hW⟩ : ∃ W, W = w1.drew := ⟨_, rfl⟩
  rw [← hW] at h2 c2d hr2 U2 hgl ⊢
  clear hW h1 c2 hr1 U1
  refine wpAnyD_take (i := 4) (v := .slice av n cu) rfl (by kernel_rfl) (by kernel_rfl) (by kernel_rfl) (by kernel_rfl) (fun _ _ _ h => h) ?_ (fun fr u h => (SlotsCells.put 32 _ (by rfl)).1 h) (fun fr u h => (SlotsCells.put 32 _ (by rfl)).2 h) ?_ ?_
  · intro fr u hh
    obtain ⟨e1, e2⟩ := hh.load (s := 31) (p := ⟨g, 2, none⟩) (v := .slice av n cu) (by simp) (by simp)
    exact ⟨rfl, by simp [execOp, e1, go_sem, e2]⟩
  · refine ⟨fun p hp => ?_, fun q hq => ?_⟩
    · simp at hp
      subst hp
      rfl
    · simp at hq
      subst hq
      exact c2d
  simp only [Act.put, List.setIfInBounds_toArray, List.set_cons_zero, List.set_cons_succ, List.getElem_toArray, List.getElem_cons_zero, List.getElem_cons_succ]
  refine wpAnyD_one (i := 7) (by kernel_rfl) rfl (fun K hK => ?_)
  go_simp
  refine (clone_at cb 4096 ⟨ab, ao, none⟩ b W Hb.out (by omega) (by omega) hr2).mono ?_
  rintro e w2 ⟨gk, ck, rfl, hgk, rk, b2⟩
  have c2e := (b2.cell (p := ⟨g, 2, none⟩) hgl).trans c2d
  refine hK _ _ ⟨?_, ?_⟩
  · refine .inr ⟨fun p hp => ?_, fun q hq => ?_⟩
    · simp at hp
      subst hp
      rfl
    · simp at hq
      subst hq
      exact c2e
  clear hK K
  refine wpAnyD_one (i := 8) (by kernel_rfl) rfl (fun K hK => ?_)
  go_simp
  refine hK _ _ ⟨?_, ?_⟩
  · refine .inr ⟨fun p hp => ?_, fun q hq => ?_⟩
    · simp at hp
      subst hp
      rfl
    · simp at hq
      subst hq
      exact c2e
  clear hK K
  have bA := (Below.refl w2.heap.size w2).alloc (Nat.le_refl _) (.cells #[.int .i64 (bn : Int), .slice (some ⟨gk, 0, none⟩) 4096 ck] 103)
  have x3 := Box.new w2 #[.int .i64 (bn : Int), .slice (some ⟨gk, 0, none⟩) 4096 ck] 103
  have rk3 := rk.same (bA.block gk rk.lt)
  have B3 := b2.trans (bA.mono b2.size)
  have c2f := (B3.cell (p := ⟨g, 2, none⟩) hgl).trans c2d
  refine wpAnyD_one (i := 9) (by kernel_rfl) rfl (fun K hK => ?_)
  go_simp
  refine hK _ _ ⟨?_, ?_⟩
  · refine .inr ⟨fun p hp => ?_, fun q hq => ?_⟩
    · simp at hp
      subst hp
      rfl
    · simp at hq
      subst hq
      exact c2f
  clear hK K
  obtain ⟨V, hV⟩ : ∃ V, V = w2.alloc (.cells #[.int .i64 (bn : Int), .slice (some ⟨gk, 0, none⟩) 4096 ck] 103) := ⟨_, rfl⟩
  obtain ⟨G, hG⟩ : ∃ G, G = w2.heap.size := ⟨_, rfl⟩
  rw [← hV] at x3 rk3 B3 c2f ⊢
  rw [← hG] at x3 ⊢
  clear hV hG bA c2e rk b2
  have h3 := h2.below B3
  have row3 : V.ownsRow 0 103 2 (.slice av n cu) n (wcs ps) := by
    have := h3.row
    rw [Huf.out, ← Hnn.out] at this
    exact this
  refine wpAnyD_one (i := 10) (by kernel_rfl) rfl (fun K hK => ?_)
  refine step_append_where rfl (.tmp 32) (.tmp 37) 80 rfl 103 i0 (.agg #[.int .i64 0, .slice none 0 0]) 2 32 Try.underlying80 hi hz0 hz1 hz2 rfl (by decide) (.slice av n cu) n (wcs ps) rfl row3 ⟨G, 0, none⟩ 1 1 [.int .i64 (bn : Int), .slice (some ⟨gk, 0, none⟩) 4096 ck] rfl rfl ?_ ?_ (by unfold maxLen; omega) (by omega) ?_
  · intro j u hj
    match j, hj with
    | 0, hj => simp at hj; subst hj; rw [Addr.add_lit]; exact x3.cell 0
    | 1, hj => simp at hj; subst hj; rw [Addr.add_lit]; exact x3.cell 1
  · intro u hu
    simp at hu
    rcases hu with rfl | rfl <;> rfl
  intro v4 w4 o4 g4 hw4
  have hVs : W.heap.size ≤ V.heap.size := B3.size
  obtain ⟨F', hl, hF', hu, hbx⟩ := h2.added B3 bn gk ck b rk3 hgk (by rw [Hnb.out]; exact hbn) Hb.out (by rw [wcs_snoc, Huf.out, ← Hnn.out]; exact o4) g4 (fun k hk => by rcases hw4 k hk with h | h; exact .inl h; exact .inr (by omega))
  have hv4 : ∃ av cu, v4 = .slice av (n + 1) cu := by
    rcases o4.2 with ⟨_, h2⟩ | ⟨gv, cu, cur, hv, _⟩
    · omega
    · exact ⟨some ⟨gv, 0, none⟩, cu, hv⟩
  obtain ⟨av4, cu4, rfl⟩ := hv4
  refine hK _ _ ⟨.inl rfl, ?_⟩
  clear hK K o4 g4 hw4 row3 h3 x3 rk3
  simp only [Act.put, List.setIfInBounds_toArray]
  refine wpAnyD_one (i := 11) (by kernel_rfl) rfl (fun K hK => ?_)
  go_simp
  refine hK _ _ ⟨.inl rfl, ?_⟩
  clear hK K
  refine wpAnyD_one (i := 12) (by kernel_rfl) rfl (fun K hK => ?_)
  go_simp
  refine hK _ _ ⟨.inl rfl, ?_⟩
  clear hK K
  have f2 := hbx.frozen 2
  obtain ⟨_, _, k2, _⟩ := box_cells hbx
  refine wpAnyD_one (i := 13) (by kernel_rfl) rfl (fun K hK => ?_)
  go_simp
  refine hK _ _ ⟨.inl rfl, ?_⟩
  clear hK K f2 k2
  refine wpAnyD_done (by kernel_rfl) ?_ _
  generalize w4.setCell ⟨g, 2, none⟩ (.slice av4 (n + 1) cu4) = X at hl hu ⊢
  obtain ⟨_, _, _, k3, _⟩ := box_cells hl.box
  have f3 := hl.box.frozen 3
  dsimp only at k3
  rw [Hn.out] at k3
  have b5 := hl.box.store 3 (.int .i64 ((D.n : Int) + 1))
  have g5 := grown_store X g 3 (.int .i64 ((D.n : Int) + 1))
  have hn1 : (((D.n + 1 : Nat)) : Int) = (D.n : Int) + 1 := by omega
  have hl5 := hl.turned (D' := { D.oper with uf := D.oper.uf ++ [(bn, b)], n := D.n + 1 }) g5 (by rw [← hn1] at b5; rw [← hn1]; exact b5) rfl rfl ⟨hl.ok.len, hl.ok.lo, hl.ok.hi, hl.ok.each, hl.ok.arm, hl.ok.fail⟩
  rw [Huf.out] at hl5
  have u5 : Upd F w _ := (U2.trans hu (fun i hi => .inl hi)).grown g5 (fun k e => by cases e; exact .inl hfg)
  have hWs : w.heap.size ≤ W.heap.size := U2.size
  clear b5 g5 hn1 hl hu hbx
  go_wp2
  go_ret
  exact ⟨rfl, ⟨F', ⟨_, _, _, _, hl5⟩, fun i hi => by rcases hF' i hi with h | h; exact .inl h; exact .inr (by omega)⟩, u5⟩
end Go.Proofs.Ytglahlbponlepaa.Dk

/-
  Write whatever it is given; Writes, Pending.
-/
namespace Go.Proofs.Ytglahlbponlepaa.Dk
open Go.RowKit

set_option maxRecDepth 100000 in
theorem write_not {g : Nat} {w : World} {D : DS} {F : Nat → Prop} {gd cd : Nat} {vu : Value} {ps : List (Nat × Nat × Nat)} (h : Lies w g D F gd cd vu ps) (n : Int) (a : Option Addr) (len cb : Nat) (hn : D.has n = false) :
    Calls Try.prog 64 #[.pointer (some ⟨g, 0, none⟩), .int .i64 n, .slice a len cb] w fun e w' => e = .returned (.int .i64 70) ∧ w = w' := by
  have c := isMade_at h
  have cH := has_at h n
  rw [hn] at cH
  go_enter Try.func64, Try.ntmps64
  go_wp2_with fail
  refine c.mono ?_
  rintro e w' ⟨rfl, rfl⟩
  go_wp2_with fail
  refine cH.mono ?_
  rintro e w' ⟨rfl, rfl⟩
  go_wp2
  go_ret
  exact ⟨rfl, rfl⟩
set_option maxRecDepth 100000 in
theorem write_len {g : Nat} {w : World} {D : DS} {F : Nat → Prop} {gd cd : Nat} {vu : Value} {ps : List (Nat × Nat × Nat)} (h : Lies w g D F gd cd vu ps) (n : Int) (a : Option Addr) (len cb : Nat) (hn : D.has n = true) (hl : len ≠ 4096) :
    Calls Try.prog 64 #[.pointer (some ⟨g, 0, none⟩), .int .i64 n, .slice a len cb] w fun e w' => e = .returned (.int .i64 2) ∧ w = w' := by
  have c := isMade_at h
  have cH := has_at h n
  rw [hn] at cH
  have hl' : ((len : Int) != 4096) = true := by simp; omega
  go_enter Try.func64, Try.ntmps64
  go_wp2_with fail
  refine c.mono ?_
  rintro e w' ⟨rfl, rfl⟩
  go_wp2_with fail
  refine cH.mono ?_
  rintro e w' ⟨rfl, rfl⟩
  go_wp2
  go_ret
  exact ⟨rfl, rfl⟩
set_option maxRecDepth 100000 in
theorem write_stop {g : Nat} {w : World} {D : DS} {F : Nat → Prop} {gd cd : Nat} {vu : Value} {ps : List (Nat × Nat × Nat)} (h : Lies w g D F gd cd vu ps) (n : Int) (a : Option Addr) (cb : Nat) (hn : D.has n = true) (hE : D.operE ≠ 0) :
    Calls Try.prog 64 #[.pointer (some ⟨g, 0, none⟩), .int .i64 n, .slice a 4096 cb] w fun e w' => e = .returned (.int .i64 (D.operE : Int)) ∧ Lies w' g D.oper F gd cd vu ps ∧ w.grownBy w' (some g) := by
  have c := isMade_at h
  have cH := has_at h n
  rw [hn] at cH
  have cO := operation_at h
  generalize D.operE = E at cO hE ⊢
  have hE' : ((E : Int) != 0) = true := by simp; omega
  go_enter Try.func64, Try.ntmps64
  go_wp2_with fail
  refine c.mono ?_
  rintro e w' ⟨rfl, rfl⟩
  go_wp2_with fail
  refine cH.mono ?_
  rintro e w' ⟨rfl, rfl⟩
  go_wp2_with fail
  refine cO.mono ?_
  rintro e w1 ⟨rfl, h1, g1⟩
  go_wp2
  go_ret
  exact ⟨rfl, h1, g1⟩

/-- Write -/
theorem write_at {g : Nat} {w : World} {D : DS} {F : Nat → Prop} (hd : IsDisk w g D F) (n : Int) (a : Option Addr) (len cb : Nat) (b : List UInt8) (hb : b.length = len) (hlim : writeF D) (hr : Rd w a b) (hF : ∀ ad, a = some ad → ¬ F ad.block) :
    Calls Try.prog 64 #[.pointer (some ⟨g, 0, none⟩), .int .i64 n, .slice a len cb] w fun e w' => e = .returned (.int .i64 (D.writeE n b : Int)) ∧ (∃ F', IsDisk w' g (D.write n b) F' ∧ ∀ i, F' i → F i ∨ w.heap.size ≤ i) ∧ Upd F w w' := by
  obtain ⟨gd, cd, vu, ps, h⟩ := hd
  cases hh : D.has n with
  | false =>
    have e1 : D.writeE n b = 70 := by simp [DS.writeE, hh]
    have e2 : D.write n b = D := by simp [DS.write, hh]
    rw [e1, e2]
    refine (write_not h n a len cb hh).mono ?_
    rintro e w' ⟨rfl, rfl⟩
    exact ⟨rfl, ⟨F, ⟨_, _, _, _, h⟩, fun i hi => .inl hi⟩, Upd.refl _ _⟩
  | true =>
    by_cases hl : len = 4096
    · subst hl
      by_cases hE : D.operE = 0
      · have hn : 0 ≤ n ∧ n < D.nb := by simpa [DS.has] using hh
        obtain ⟨bn, rfl⟩ := Int.eq_ofNat_of_zero_le hn.1
        have e1 : D.writeE bn b = 0 := by simp [DS.writeE, hh, hb, hE]
        have e2 : D.write bn b = { D.oper with uf := D.uf ++ [(bn, b)], n := D.n + 1 } := by simp [DS.write, hh, hb, hE]
        rw [e1, e2]
        obtain ⟨b', o', rfl, _⟩ := hr (by omega)
        exact write_ok h bn cb _ b hb (by omega) hE hlim hr (hF _ rfl)
      · have e1 : D.writeE n b = D.operE := by simp [DS.writeE, hh, hb]
        have e2 : D.write n b = D.oper := by simp [DS.write, hh, hb, hE]
        rw [e1, e2]
        refine (write_stop h n a cb hh hE).mono ?_
        rintro e w' ⟨rfl, h1, g1⟩
        exact ⟨rfl, ⟨F, ⟨_, _, _, _, h1⟩, fun i hi => .inl hi⟩, (Upd.refl F w).grown g1 (fun k e => by cases e; exact .inl h.fg)⟩
    · have e1 : D.writeE n b = 2 := by simp [DS.writeE, hh, hb, hl]
      have e2 : D.write n b = D := by simp [DS.write, hh, hb, hl]
      rw [e1, e2]
      refine (write_len h n a len cb hh hl).mono ?_
      rintro e w' ⟨rfl, rfl⟩
      exact ⟨rfl, ⟨F, ⟨_, _, _, _, h⟩, fun i hi => .inl hi⟩, Upd.refl _ _⟩

theorem size_of {g : Nat} {w : World} {D : DS} {F : Nat → Prop} (hd : IsDisk w g D F) :
    Calls Try.prog 45 #[.pointer (some ⟨g, 0, none⟩)] w fun e w' => e = .returned (.int .i64 (D.nb : Int)) ∧ w = w' := by
  obtain ⟨gd, cd, vu, ps, h⟩ := hd
  exact size_at h

def ic (k : Nat) : Value := .int .i64 (k : Int)
theorem info3 : (Try.prog.info? 3).map (fun i => (i.zero, i.size, i.bytes)) = some (some (.int .i64 0), 1, 8) := by kernel_rfl

/-- the blocks of the first k writes -/
def pend (uf : List (Nat × List UInt8)) (k : Nat) : List Value := ((uf.take k).map (·.1)).map ic
theorem pend_succ (uf : List (Nat × List UInt8)) (k : Nat) (h : k < uf.length) : pend uf (k + 1) = pend uf k ++ [.int .i64 (uf[k].1 : Int)] := by
  unfold pend
  rw [List.take_succ_eq_append_getElem h, List.map_append, List.map_append]
  rfl
theorem pend_all (uf : List (Nat × List UInt8)) : pend uf uf.length = (uf.map (·.1)).map ic := by unfold pend; rw [List.take_length]

set_option maxRecDepth 100000 in
theorem pending_at {g : Nat} {w : World} {D : DS} {F : Nat → Prop} (hd : IsDisk w g D F) (hlim : D.uf.length ≤ 1000000) :
    Calls Try.prog 49 #[.pointer (some ⟨g, 0, none⟩)] w fun e w' => ∃ v, e = .returned v ∧ w'.ownsRow w.heap.size 3 1 v D.uf.length (pend D.uf D.uf.length) ∧ Below w.heap.size w w' := by
  obtain ⟨gd, cd, vu, ps, h⟩ := hd
  have c := isMade_at h
  obtain ⟨_, _, c2, _⟩ := box_cells h.box
  obtain ⟨i0, hi, hz0, hz1, hz2⟩ := info_parts info3
  by_cases h0 : 0 < D.uf.length
  · obtain ⟨gv, cu, cur, rfl, hcu, hmu, hbv, hcells⟩ := h.writes h0
    have Hcells : Hid _ := hcells
    have hlt := hbv.lt
    have Hlen : Hid _ := h.len
    obtain ⟨n, hn⟩ : ∃ n, n = D.uf.length := ⟨_, rfl⟩
    rw [← hn] at hcu c2 hlim ⊢
    have Hn : Hid _ := hn
    clear hcells h hn h0
    go_enter Try.func49, Try.ntmps49
    go_wp2_with fail
    refine c.mono ?_
    rintro e w' ⟨rfl, rfl⟩
    clear c
    go_wp2_with fail
    go_loopw [3, 14] (fun v i wr => ∃ k : Nat, k ≤ n ∧ i = .int .i64 k ∧ wr.ownsRow w.heap.size 3 1 v k (pend D.uf k) ∧ Below w.heap.size w wr) (fun _ i _ => n - (intOf i).toNat)
    case atStart => exact ⟨0, Nat.zero_le _, rfl, World.ownsRow_nil _ _ _ _, Below.refl _ _⟩
    case round =>
      obtain ⟨k, hk, rfl, hown, hbel⟩ := hrel
      by_cases hlt' : k < n
      · have hk' : k < D.uf.length := by rw [← Hn.out]; exact hlt'
        obtain ⟨a0, a1⟩ := Hcells.out k hk' (by rw [Hlen.out]; exact hk')
        have hsucc : Hid _ := pend_succ D.uf k hk'
        generalize (ps[k]'(by rw [Hlen.out]; exact hk')).2.1 = gk at a1
        generalize (ps[k]'(by rw [Hlen.out]; exact hk')).2.2 = ck at a1
        generalize (D.uf[k]'hk').1 = bn at a0 hsucc
        have a0' := (hbel.cell (p := ⟨gv, 0 + k * 2, none⟩) hlt).trans a0
        have a1' := (hbel.cell (p := ⟨gv, 0 + k * 2 + 1, none⟩) hlt).trans a1
        simp only [Nat.zero_add] at a0' a1'
        have z3 := hbel.size
        have own1 := (hown.alloc (.cells #[.int .i64 (bn : Int), .slice (some ⟨gk, 0, none⟩) 4096 ck] 103)).alloc (.cells #[.int .i64 (bn : Int)] 3)
        clear a0 a1
        go_wp2_with (at_builtin; refine wpList_append_own _ rfl _ _ 31 rfl w.heap.size 3 i0 (.int .i64 0) 1 8 Try.underlying31 hi hz0 hz1 hz2 rfl (by decide) _ k _ rfl own1 ⟨wr.heap.size + 1, 0, none⟩ 1 1 [.int .i64 (bn : Int)] rfl rfl ?c1 ?c2 ?c3 ?c4 ?c5 ?_)
        case c1 =>
          intro i u hi'
          match i, hi' with
          | 0, hi' => simp at hi'; subst hi'; simp [Addr.add]
        case c2 => intro u hu; simp at hu; subst hu; rfl
        case c3 => unfold maxLen; omega
        case c4 => omega
        case c5 => simp; omega
        · intro v' w4 hown4 hgrow _
          have B4 : Below w.heap.size w w4 := ((hbel.alloc z3 _).alloc (by simp; omega) _).grown hgrow (by simp; omega) (fun k hk => (hown.lt k hk).1)
          rw [← hsucc.out] at hown4
          clear hown hbel hgrow own1
          go_wp2
          go_roundw
          case rel => exact ⟨k + 1, by omega, by go_num, hown4, B4⟩
          case measure => simp [intOf]; omega
      · obtain rfl : k = n := by omega
        go_wp2
        go_ret
        exact ⟨_, rfl, hown, hbel⟩
  · have hn : D.uf.length = 0 := by omega
    rw [hn]
    have hp0 : pend D.uf 0 = [] := rfl
    rw [hp0]
    obtain ⟨av, cu, rfl⟩ : ∃ av cu, vu = .slice av 0 cu := by
      rcases h.row.2 with ⟨h1, _⟩ | ⟨gv, cu, cur, hv, _⟩
      · exact ⟨none, 0, h1⟩
      · exact ⟨some ⟨gv, 0, none⟩, cu, by rw [hv, hn]⟩
    clear h hn h0 hlim hp0
    go_enter Try.func49, Try.ntmps49
    go_wp2_with fail
    refine c.mono ?_
    rintro e w' ⟨rfl, rfl⟩
    go_wp2_with fail
    refine wp_loop_rounds 1 ?_
    rw [rounds_succ]
    go_wp2
    go_ret
    exact ⟨_, rfl, World.ownsRow_nil _ _ _ _, Below.refl _ _⟩
end Go.Proofs.Ytglahlbponlepaa.Dk

/-
  Rows of numbers that count up: the law's row, and Groups.
-/
namespace Go.Proofs.Ytglahlbponlepaa.J
open Go.RowKit
open Go.Proofs.Ytglahlbponlepaa.Dk (Box)

/-- so many numbers from a on -/
def upL (a : Int) (k : Nat) : List Value := (List.range k).map fun i : Nat => .int .i64 (a + (i : Int))
theorem upL_succ (a : Int) (k : Nat) : upL a (k + 1) = upL a k ++ [.int .i64 (a + (k : Int))] := by simp [upL, List.range_succ]

theorem row_at (n : Nat) (w : World) (hn : n ≤ 1000) :
    Calls Try.prog 8 #[.int .i64 (n : Int)] w fun r w' => ∃ v, r = .returned v ∧ w'.ownsRow w.heap.size 3 1 v n (upL 30 n) ∧ Below w.heap.size w w' := by
  obtain ⟨i0, hi, hz0, hz1, hz2⟩ := info_parts Dk.info3
  go_enter Try.func8, Try.ntmps8
  go_wp2_with fail
  go_loopw [3, 4] (fun v i wr => ∃ k : Nat, k ≤ n ∧ i = .int .i64 k ∧ wr.ownsRow w.heap.size 3 1 v k (upL 30 k) ∧ Below w.heap.size w wr) (fun _ i _ => n - (intOf i).toNat)
  case atStart => exact ⟨0, Nat.zero_le _, rfl, World.ownsRow_nil _ _ _ _, Below.refl _ _⟩
  case round =>
    obtain ⟨k, hk, rfl, hown, hbel⟩ := hrel
    by_cases hlt' : k < n
    · have hsucc : Hid (upL 30 (k + 1) = upL 30 k ++ [.int .i64 (30 + (k : Int))]) := upL_succ 30 k
      have z3 := hbel.size
      have own1 := hown.alloc (.cells #[.int .i64 (30 + (k : Int))] 3)
      go_wp2_with (at_builtin; refine wpList_append_own _ rfl _ _ 31 rfl w.heap.size 3 i0 (.int .i64 0) 1 8 Try.underlying31 hi hz0 hz1 hz2 rfl (by decide) _ k _ rfl own1 ⟨wr.heap.size, 0, none⟩ 1 1 [.int .i64 (30 + (k : Int))] rfl rfl ?c1 ?c2 ?c3 ?c4 ?c5 ?_)
      case c1 =>
        intro i u hi'
        match i, hi' with
        | 0, hi' => simp at hi'; subst hi'; simp [Addr.add]
      case c2 => intro u hu; simp at hu; subst hu; rfl
      case c3 => unfold maxLen; omega
      case c4 => omega
      case c5 => simp; omega
      · intro v' w4 hown4 hgrow _
        have B4 : Below w.heap.size w w4 := (hbel.alloc z3 _).grown hgrow (by simp; omega) (fun k hk => (hown.lt k hk).1)
        rw [← hsucc.out] at hown4
        clear hown hbel hgrow own1
        go_wp2
        go_roundw
        case rel => exact ⟨k + 1, by omega, by go_num, hown4, B4⟩
        case measure => simp [intOf]; omega
    · obtain rfl : k = n := by omega
      go_wp2
      go_ret
      exact ⟨_, rfl, hown, hbel⟩
theorem groups_at {w : World} {g dg n c : Nat} {a : Option Addr} {J : JS} (h : Box w g (jC g dg (.slice a n c) J) 47) (h0 : n ≤ J.next) (h1 : J.next ≤ 549755813889) (hn : n ≤ 1000) :
    Calls Try.prog 22 #[.pointer (some ⟨g, 0, none⟩)] w fun r w' => ∃ v, r = .returned v ∧ w'.ownsRow w.heap.size 3 1 v n (upL (J.next - n) n) ∧ Below w.heap.size w w' := by
  obtain ⟨i0, hi, hz0, hz1, hz2⟩ := info_parts Dk.info3
  obtain ⟨c0, _, _, _, c4, _, _, _, _, _, _, _⟩ := box_cells h
  have hf := first_at h h0 h1
  have hlt := h.lt
  obtain ⟨b, hb⟩ : ∃ b, b = J.next - n := ⟨_, rfl⟩
  have hb' : J.next = b + n := by omega
  have hb0 : 0 ≤ b := by omega
  rw [← hb] at hf ⊢
  rw [hb'] at c4
  have h1' : b + n ≤ 549755813889 := by omega
  clear hb hb' h0 h1 h
  go_enter Try.func22, Try.ntmps22
  go_wp2_with fail
  refine (isMade_cell g w c0).mono ?_
  rintro r w1 ⟨rfl, rfl⟩
  go_wp2_with fail
  refine hf.mono ?_
  rintro r w1 ⟨rfl, q, rfl⟩
  go_wp2_with fail
  go_loopw [3, 4] (fun v i wr => ∃ k : Nat, k ≤ n ∧ i = .int .i64 (b + k) ∧ wr.ownsRow w.heap.size 3 1 v k (upL b k) ∧ Below w.heap.size w wr) (fun _ i _ => (b + n - intOf i).toNat)
  case atStart => exact ⟨0, Nat.zero_le _, by simp, World.ownsRow_nil _ _ _ _, below_drewN (Below.refl _ _) q⟩
  case round =>
    obtain ⟨k, hk, rfl, hown, hbel⟩ := hrel
    have c4' := (hbel.cell (p := ⟨g, 4, none⟩) hlt).trans c4
    by_cases hlt' : k < n
    · have hsucc : Hid (upL b (k + 1) = upL b k ++ [.int .i64 (b + (k : Int))]) := upL_succ b k
      have z3 := hbel.size
      have own1 := hown.alloc (.cells #[.int .i64 (b + (k : Int))] 3)
      go_wp2_with (at_builtin; refine wpList_append_own _ rfl _ _ 31 rfl w.heap.size 3 i0 (.int .i64 0) 1 8 Try.underlying31 hi hz0 hz1 hz2 rfl (by decide) _ k _ rfl own1 ⟨wr.heap.size, 0, none⟩ 1 1 [.int .i64 (b + (k : Int))] rfl rfl ?c1 ?c2 ?c3 ?c4 ?c5 ?_)
      case c1 =>
        intro i u hi'
        match i, hi' with
        | 0, hi' => simp at hi'; subst hi'; simp [Addr.add]
      case c2 => intro u hu; simp at hu; subst hu; rfl
      case c3 => unfold maxLen; omega
      case c4 => omega
      case c5 => simp; omega
      · intro v' w4 hown4 hgrow _
        have B4 : Below w.heap.size w w4 := (hbel.alloc z3 _).grown hgrow (by simp; omega) (fun k hk => (hown.lt k hk).1)
        rw [← hsucc.out] at hown4
        clear hown hbel hgrow own1
        go_wp2
        go_roundw
        case rel => exact ⟨k + 1, by omega, by push_cast; rw [Int.add_assoc], hown4, B4⟩
        case measure => simp [intOf]; omega
    · obtain rfl : k = n := by omega
      go_wp2
      go_ret
      exact ⟨_, rfl, hown, hbel⟩
end Go.Proofs.Ytglahlbponlepaa.J

/-
  What is asked ahead of an Append: the group is put, and its blocks must fit.
-/
namespace Go.Proofs.Ytglahlbponlepaa.J
open Go.RowKit
open Go.Proofs.Ytglahlbponlepaa.Dk (Box)

/-- blocks in a list, all of it made behind B -/
def New (B : Nat) (w : World) (gl : Nat) (bs : List (List UInt8)) : Prop :=
  B ≤ gl ∧ gl < w.heap.size ∧ ∀ k (h : k < bs.length), ∃ q c, w.cell? ⟨gl, k, none⟩ = some (.slice (some ⟨q, 0, none⟩) 4096 c) ∧ (bs[k]).length = 4096 ∧ Dk.Rd w (some ⟨q, 0, none⟩) bs[k] ∧ B ≤ q ∧ q < w.heap.size

theorem New.kept {B gl : Nat} {w w' : World} {bs : List (List UInt8)} (h : New B w gl bs) (hs : w.heap.size ≤ w'.heap.size) (hk : ∀ k, B ≤ k → k < w.heap.size → w'.heap[k]? = w.heap[k]?) : New B w' gl bs := by
  obtain ⟨h1, h2, h3⟩ := h
  refine ⟨h1, by omega, fun k hkl => ?_⟩
  obtain ⟨q, c, a1, a2, a3, a4, a5⟩ := h3 k hkl
  refine ⟨q, c, (World.cell?_of_block (hk gl h1 h2)).trans a1, a2, fun hp => ?_, a4, by omega⟩
  obtain ⟨b, o, e, hc⟩ := a3 hp
  refine ⟨b, o, e, fun j hj => ?_⟩
  simp at e
  obtain ⟨rfl, rfl⟩ := e
  exact (World.cell?_of_block (a := ⟨q, 0 + j, none⟩) (hk q a4 a5)).trans (hc j hj)

theorem put_new (e s : Int) (a : Option Addr) (n cap : Nat) (is : List (Int × List UInt8)) (w : World) (hl : is.length = n) (hI : Rc.Imgs w a is) (hok : Rc.okGroup e s is) :
    Calls Try.prog 26 #[.agg #[.int .i64 e, .int .i64 s, .slice a n cap]] w fun r w' => ∃ gl cl, r = .returned (.tuple #[.slice (some ⟨gl, 0, none⟩) (n + 1) cl, .int .i64 0]) ∧ New w.heap.size w' gl (Rc.putL e.toNat s.toNat is) ∧ Below w.heap.size w w' := by
  have hst := (Rc.okStamp_iff _ _).1 hok.1.1
  obtain ⟨E, rfl⟩ : ∃ E : Nat, e = (E : Int) := ⟨e.toNat, by omega⟩
  obtain ⟨S, rfl⟩ : ∃ S : Nat, s = (S : Int) := ⟨s.toNat, by omega⟩
  have hlen := Rc.is_length hok
  refine (Rc.put_in E S a n cap is w hl hI hok (by omega) (by omega)).mono ?_
  rintro r w' ⟨gl, cl, h0, ps, rfl, hgl, ho, hr, _, hB0, hj, hm, b⟩
  have hplen : ps.length = n := by rw [← hl, ← hm]; simp
  rw [Rc.esOf_entL, hm] at hr
  refine ⟨gl, cl, rfl, ⟨hgl, ?_, fun j hjl => ?_⟩, b⟩
  · rcases ho.2 with ⟨h1, _⟩ | ⟨g, cap, cur, h1, _, hg2, hnc, hcm, hcs, ht⟩
    · cases h1
    · injection h1 with h1
      injection h1 with h1
      injection h1 with h1
      subst h1
      exact (Array.getElem?_eq_some_iff.1 hg2).1
  have hjn : j < n + 1 := by simpa [Rc.putL, hl] using hjl
  have cell : w'.cell? ⟨gl, j, none⟩ = (.slice (some ⟨h0, 0, none⟩) 4096 4096 :: Rc.rowC ps)[j]? := by
    rcases ho.2 with ⟨h1, _⟩ | ⟨g, cap, cur, h1, _, hg2, hnc, hcm, hcs, ht⟩
    · cases h1
    · injection h1 with h1
      injection h1 with h1
      injection h1 with h1
      subst h1
      have hB : Box w' gl cur 64 := hg2
      rw [hB.cell j, ← ht, List.getElem?_take, if_pos (by omega)]
      simp
  cases j with
  | zero =>
    have e0 : (Rc.putL (E : Int).toNat (S : Int).toNat is)[0] = Rc.headB E S (Rc.entL (Rc.mark E S) is) := rfl
    have h4 : (Rc.headB E S (Rc.entL (Rc.mark E S) is)).length = 4096 := Rc.headB_length (Rc.bodyB_length _ (Rc.entL_len hok) (by rw [Rc.entL_length]; exact (Rc.is_length hok).2))
    rw [e0]
    exact ⟨h0, 4096, by rw [cell]; rfl, h4, hr.rd, hB0, hr.lt⟩
  | succ i =>
    have hi : i < ps.length := by omega
    have hii : i < is.length := by omega
    have e1 : (Rc.putL (E : Int).toNat (S : Int).toNat is)[i + 1] = Rc.stB (Rc.mark E S) (is[i]).2 := by simp [Rc.putL]
    have e2 : (is[i]).2 = (ps[i]).xs := by subst hm; simp
    obtain ⟨q1, _, q3, _⟩ := hj.rows ps[i] (List.getElem_mem hi)
    have hd4 : (is[i]).2.length = 4096 := hok.2 (is[i]) (List.getElem_mem hii)
    have h4 := Rc.stB_length (Rc.mark E S) (is[i]).2 hd4 (Rc.mark_length E S)
    rw [← e2] at q1
    rw [e1]
    exact ⟨(ps[i]).h, (ps[i]).c, by rw [cell, List.getElem?_cons_succ]; exact Rc.rowC_at ps i hi, h4, q1.rd, q3, q1.lt⟩

theorem upd_store {w W : World} {c : Nat} (b : Below w.heap.size w W) (v : Value) : Dk.Upd (· = c) w (W.setCell ⟨c, 0, none⟩ v) := by
  have g := Rc.grown_store W c 0 v
  have hz := b.size
  exact ⟨g.os.trans b.os, g.tape.trans b.tape, g.output.trans b.output, Nat.le_trans hz g.size, fun k hk hn => (g.block k (by omega) (fun e => hn (by injection e))).trans (b.block k hk)⟩

/-- n blocks and a head were put, and are told in the box c -/
def Puts (w w' : World) (c n : Nat) (bs : List (List UInt8)) : Prop := Dk.Upd (· = c) w w' ∧ ∃ gl cl, Box w' c #[.slice (some ⟨gl, 0, none⟩) (n + 1) cl] 55 ∧ New w.heap.size w' gl bs

theorem append1_no {w : World} {g dg a b c n cap : Nat} {al : Option Addr} {vs : Value} {J : JS} (h : Box w g (jC g dg vs J) 47) (ha : Box w a #[.pointer (some ⟨g, 0, none⟩)] 23) (hb : Box w b #[.slice al n cap] 29) (hc : Box w c #[.slice none 0 0] 55)
    (is : List (Int × List UInt8)) (hl : is.length = n) (hn : n * 32 ≤ 140737488355328) (hI : Rc.Imgs w al is) (hno : ¬ Rc.okGroup J.epoch J.next is) :
    Calls Try.prog 25 #[.pointer (some ⟨a, 0, none⟩), .pointer (some ⟨b, 0, none⟩), .pointer (some ⟨c, 0, none⟩)] w fun r w' => r = .returned (.int .i64 80) ∧ Dk.Upd (· = c) w w' := by
  obtain ⟨_, _, _, c3, c4, _, _, _, _, _, _, _⟩ := box_cells h
  have ca := ha.cell 0
  have cb := hb.cell 0
  have cc := hc.cell 0
  have fc := hc.frozen 0
  simp at ca cb cc
  have l1 := h.lt
  have l2 := ha.lt
  have l3 := hb.lt
  have l4 := hc.lt
  have n1 : a ≠ c := ha.ne hc (by decide)
  have n2 : b ≠ c := hb.ne hc (by decide)
  have n3 : g ≠ c := h.ne hc (by decide)
  have hp := fun u (bu : Below w.heap.size w u) => Rc.put_no J.epoch J.next al n cap is u hl hn (hI.below bu) hno
  have HS : Hid (∀ u, Below w.heap.size w u → u.cell? ⟨a, 0, none⟩ = some (.pointer (some ⟨g, 0, none⟩)) ∧ u.cell? ⟨b, 0, none⟩ = some (.slice al n cap) ∧ u.cell? ⟨g, 3, none⟩ = some (.int .i64 J.epoch) ∧ u.cell? ⟨g, 4, none⟩ = some (.int .i64 J.next)) := fun u bu =>
    ⟨(bu.cell (p := ⟨a, 0, none⟩) l2).trans ca, (bu.cell (p := ⟨b, 0, none⟩) l3).trans cb, (bu.cell (p := ⟨g, 3, none⟩) l1).trans c3, (bu.cell (p := ⟨g, 4, none⟩) l1).trans c4⟩
  have HC : Hid (∀ u, Below w.heap.size w u → u.cell? ⟨c, 0, none⟩ = some (.slice none 0 0) ∧ u.frozen? ⟨c, 0, none⟩ = false) := fun u bu =>
    ⟨(bu.cell (p := ⟨c, 0, none⟩) l4).trans cc, (World.frozen?_of_block (a := ⟨c, 0, none⟩) (bu.block c l4)).trans fc⟩
  have HT : Hid (∀ u v, Below w.heap.size w u → (u.setCell ⟨c, 0, none⟩ v).cell? ⟨a, 0, none⟩ = some (.pointer (some ⟨g, 0, none⟩)) ∧ (u.setCell ⟨c, 0, none⟩ v).cell? ⟨b, 0, none⟩ = some (.slice al n cap) ∧ (u.setCell ⟨c, 0, none⟩ v).cell? ⟨g, 3, none⟩ = some (.int .i64 J.epoch) ∧ (u.setCell ⟨c, 0, none⟩ v).cell? ⟨g, 4, none⟩ = some (.int .i64 J.next)) := fun u v bu => by
    have hz := bu.size
    obtain ⟨s1, s2, s3, s4⟩ := HS.out u bu
    have hk := fun k (hk : k < w.heap.size) (hne : k ≠ c) => (Rc.grown_store u c 0 v).block k (by omega) (fun e => hne (by injection e))
    exact ⟨(World.cell?_of_block (hk a l2 n1)).trans s1, (World.cell?_of_block (hk b l3 n2)).trans s2, (World.cell?_of_block (hk g l1 n3)).trans s3, (World.cell?_of_block (hk g l1 n3)).trans s4⟩
  clear h ha hb hc hI
  go_enter Try.func25, Try.ntmps25
  go_wp2_with fail
  go_region_held3 (fun u => u.cell? ⟨a, 0, none⟩ = some (.pointer (some ⟨g, 0, none⟩)) ∧ u.cell? ⟨b, 0, none⟩ = some (.slice al n cap) ∧ u.cell? ⟨g, 3, none⟩ = some (.int .i64 J.epoch) ∧ u.cell? ⟨g, 4, none⟩ = some (.int .i64 J.next))
    (first | with_reducible exact HS.out _ hb1 | with_reducible exact HT.out _ _ hb1 | go_keep)
    (first
      | (go_at_call 26; refine Calls.mono (hp _ ((Below.refl w.heap.size w).drew)) ?_; rintro r W ⟨rfl, hw1⟩; have hb1 : Below w.heap.size w W := (Below.refl w.heap.size w).drew.trans hw1; obtain ⟨cc1, fc1⟩ := HC.out W hb1))
  go_wp2_with fail
  go_ret
  exact ⟨rfl, upd_store hb1 _⟩

theorem append1_ok {w : World} {g dg a b c n cap : Nat} {al : Option Addr} {vs : Value} {J : JS} (h : Box w g (jC g dg vs J) 47) (ha : Box w a #[.pointer (some ⟨g, 0, none⟩)] 23) (hb : Box w b #[.slice al n cap] 29) (hc : Box w c #[.slice none 0 0] 55)
    (is : List (Int × List UInt8)) (hl : is.length = n) (hI : Rc.Imgs w al is) (hok : Rc.okGroup J.epoch J.next is) :
    Calls Try.prog 25 #[.pointer (some ⟨a, 0, none⟩), .pointer (some ⟨b, 0, none⟩), .pointer (some ⟨c, 0, none⟩)] w fun r w' => r = .returned (.int .i64 (if J.S < (n + 1 : Nat) then 232 else 0)) ∧ Puts w w' c n (Rc.putL J.epoch.toNat J.next.toNat is) := by
  obtain ⟨_, _, _, c3, c4, _, _, _, _, _, _, _⟩ := box_cells h
  have ca := ha.cell 0
  have cb := hb.cell 0
  have cc := hc.cell 0
  have fc := hc.frozen 0
  simp at ca cb cc
  have l1 := h.lt
  have l2 := ha.lt
  have l3 := hb.lt
  have l4 := hc.lt
  have n1 : a ≠ c := ha.ne hc (by decide)
  have n2 : b ≠ c := hb.ne hc (by decide)
  have n3 : g ≠ c := h.ne hc (by decide)
  have hp := fun u (bu : Below w.heap.size w u) => put_new J.epoch J.next al n cap is u hl (hI.below bu) hok
  have HS : Hid (∀ u, Below w.heap.size w u → u.cell? ⟨a, 0, none⟩ = some (.pointer (some ⟨g, 0, none⟩)) ∧ u.cell? ⟨b, 0, none⟩ = some (.slice al n cap) ∧ u.cell? ⟨g, 3, none⟩ = some (.int .i64 J.epoch) ∧ u.cell? ⟨g, 4, none⟩ = some (.int .i64 J.next)) := fun u bu =>
    ⟨(bu.cell (p := ⟨a, 0, none⟩) l2).trans ca, (bu.cell (p := ⟨b, 0, none⟩) l3).trans cb, (bu.cell (p := ⟨g, 3, none⟩) l1).trans c3, (bu.cell (p := ⟨g, 4, none⟩) l1).trans c4⟩
  have HC : Hid (∀ u, Below w.heap.size w u → u.cell? ⟨c, 0, none⟩ = some (.slice none 0 0) ∧ u.frozen? ⟨c, 0, none⟩ = false) := fun u bu =>
    ⟨(bu.cell (p := ⟨c, 0, none⟩) l4).trans cc, (World.frozen?_of_block (a := ⟨c, 0, none⟩) (bu.block c l4)).trans fc⟩
  have HT : Hid (∀ u v, Below w.heap.size w u → (u.setCell ⟨c, 0, none⟩ v).cell? ⟨a, 0, none⟩ = some (.pointer (some ⟨g, 0, none⟩)) ∧ (u.setCell ⟨c, 0, none⟩ v).cell? ⟨b, 0, none⟩ = some (.slice al n cap) ∧ (u.setCell ⟨c, 0, none⟩ v).cell? ⟨g, 3, none⟩ = some (.int .i64 J.epoch) ∧ (u.setCell ⟨c, 0, none⟩ v).cell? ⟨g, 4, none⟩ = some (.int .i64 J.next)) := fun u v bu => by
    have hz := bu.size
    obtain ⟨s1, s2, s3, s4⟩ := HS.out u bu
    have hk := fun k (hk : k < w.heap.size) (hne : k ≠ c) => (Rc.grown_store u c 0 v).block k (by omega) (fun e => hne (by injection e))
    exact ⟨(World.cell?_of_block (hk a l2 n1)).trans s1, (World.cell?_of_block (hk b l3 n2)).trans s2, (World.cell?_of_block (hk g l1 n3)).trans s3, (World.cell?_of_block (hk g l1 n3)).trans s4⟩
  have H0 : Hid (Box w g (jC g dg vs J) 47) := h
  have HB : Hid (Box w c #[.slice none 0 0] 55) := hc
  have HL : Hid (n < 32 + 1) := by have := hok.1.2.1; simp at this; show n < 32 + 1; omega
  clear h ha hb hc hI hok hl
  go_enter Try.func25, Try.ntmps25
  go_wp2_with fail
  go_region_held3 (fun u => u.cell? ⟨a, 0, none⟩ = some (.pointer (some ⟨g, 0, none⟩)) ∧ u.cell? ⟨b, 0, none⟩ = some (.slice al n cap) ∧ u.cell? ⟨g, 3, none⟩ = some (.int .i64 J.epoch) ∧ u.cell? ⟨g, 4, none⟩ = some (.int .i64 J.next))
    (first | with_reducible exact HS.out _ hb1 | with_reducible exact HT.out _ _ hb1 | go_keep)
    (first
      | (go_at_call 26; refine Calls.mono (hp _ ((Below.refl w.heap.size w).drew)) ?_; rintro r W ⟨gl, cl, rfl, hN, hw1⟩; have hb1 : Below w.heap.size w W := (Below.refl w.heap.size w).drew.trans hw1; obtain ⟨cc1, fc1⟩ := HC.out W hb1))
  have hu := upd_store (c := c) hb1 (.slice (some ⟨gl, 0, none⟩) (n + 1) cl)
  have hbc : Box (W.setCell ⟨c, 0, none⟩ (.slice (some ⟨gl, 0, none⟩) (n + 1) cl)) c #[.slice (some ⟨gl, 0, none⟩) (n + 1) cl] 55 := Box.store (cs := #[.slice none 0 0]) ((hb1.block c l4).trans HB.out) 0 _
  have hN2 : New w.heap.size (W.setCell ⟨c, 0, none⟩ (.slice (some ⟨gl, 0, none⟩) (n + 1) cl)) gl (Rc.putL J.epoch.toNat J.next.toNat is) :=
    New.kept hN (Rc.grown_store W c 0 _).size (fun k h1 h2 => (Rc.grown_store W c 0 _).block k h2 (fun e => by injection e with e; have : w.drew.heap.size = w.heap.size := rfl; omega))
  have cS := fits_at ((hu.block g l1 n3).trans H0.out) ((n + 1 : Nat) : Int)
  obtain ⟨x1, _, _, _⟩ := HT.out W (.slice (some ⟨gl, 0, none⟩) (n + 1) cl) hb1
  have x2 := hbc.cell 0
  simp at x2
  have HL2 := HL.out
  clear hN cc1 fc1 hw1
  generalize W.setCell ⟨c, 0, none⟩ (.slice (some ⟨gl, 0, none⟩) (n + 1) cl) = W' at *
  go_wp2_with fail
  refine cS.mono ?_
  rintro r w1 ⟨rfl, rfl⟩
  go_wp2_with fail
  all_goals (go_ret; exact ⟨rfl, hu, gl, cl, hbc, hN2⟩)
end Go.Proofs.Ytglahlbponlepaa.J

/-
  layout's own calls: within, laid, Of; the document's Of.
-/
namespace Go.Proofs.Ytglahlbponlepaa.La
open Go.RowKit

/-- a block that was made for one value -/
def Box (w : World) (g : Nat) (cs : Array Value) (t : TypeId) : Prop := w.heap[g]? = some (.cells cs t (0, 0))
theorem Box.cell {w : World} {g : Nat} {cs : Array Value} {t : TypeId} (h : Box w g cs t) (j : Nat) : w.cell? ⟨g, j, none⟩ = cs[j]? := cell_of_row w g j cs t (0, 0) h
theorem Box.lt {w : World} {g : Nat} {cs : Array Value} {t : TypeId} (h : Box w g cs t) : g < w.heap.size := (Array.getElem?_eq_some_iff.1 h).1
theorem Box.below {w w' : World} {g : Nat} {cs : Array Value} {t : TypeId} (h : Box w g cs t) (hb : Below w.heap.size w w') : Box w' g cs t := (hb.block g h.lt).trans h
theorem Box.new (w : World) (cs : Array Value) (t : TypeId) : Box (w.alloc (.cells cs t)) w.heap.size cs t := heap_alloc_new w _

theorem Box.frozen {w : World} {g : Nat} {cs : Array Value} {t : TypeId} (h : Box w g cs t) (j : Nat) : w.frozen? ⟨g, j, none⟩ = false := frozen_of_row w g j cs t h
theorem Box.store {w : World} {g : Nat} {cs : Array Value} {t : TypeId} (h : Box w g cs t) (j : Nat) (v : Value) : Box (w.setCell ⟨g, j, none⟩ v) g (cs.setIfInBounds j v) t := heap_setCell_same w g j cs t v h
theorem Box.alloc {w : World} {g : Nat} {cs : Array Value} {t : TypeId} (h : Box w g cs t) (o : Obj) : Box (w.alloc o) g cs t := (Below.heap_alloc w o g h.lt).trans h
theorem Box.all7 {w : World} {g : Nat} {v0 v1 v2 v3 v4 v5 v6 : Value} {t : TypeId} (h : Box w g #[v0, v1, v2, v3, v4, v5, v6] t) : w.cell? ⟨g, 0, none⟩ = some v0 ∧ w.cell? ⟨g, 1, none⟩ = some v1 ∧ w.cell? ⟨g, 2, none⟩ = some v2 ∧ w.cell? ⟨g, 3, none⟩ = some v3 ∧ w.cell? ⟨g, 4, none⟩ = some v4 ∧ w.cell? ⟨g, 5, none⟩ = some v5 ∧ w.cell? ⟨g, 6, none⟩ = some v6 :=
  ⟨h.cell 0, h.cell 1, h.cell 2, h.cell 3, h.cell 4, h.cell 5, h.cell 6⟩
theorem Box.fr7 {w : World} {g : Nat} {cs : Array Value} {t : TypeId} (h : Box w g cs t) : w.frozen? ⟨g, 0, none⟩ = false ∧ w.frozen? ⟨g, 1, none⟩ = false ∧ w.frozen? ⟨g, 2, none⟩ = false ∧ w.frozen? ⟨g, 3, none⟩ = false ∧ w.frozen? ⟨g, 4, none⟩ = false ∧ w.frozen? ⟨g, 5, none⟩ = false ∧ w.frozen? ⟨g, 6, none⟩ = false :=
  ⟨h.frozen 0, h.frozen 1, h.frozen 2, h.frozen 3, h.frozen 4, h.frozen 5, h.frozen 6⟩
def set7 (w : World) (g : Nat) (u0 u1 u2 u3 u4 u5 u6 : Value) : World := (((((((w.setCell ⟨g, 0, none⟩ u0).setCell ⟨g, 1, none⟩ u1).setCell ⟨g, 2, none⟩ u2).setCell ⟨g, 3, none⟩ u3).setCell ⟨g, 4, none⟩ u4).setCell ⟨g, 5, none⟩ u5).setCell ⟨g, 6, none⟩ u6)
theorem Box.store7 {w : World} {g : Nat} {v0 v1 v2 v3 v4 v5 v6 u0 u1 u2 u3 u4 u5 u6 : Value} {t : TypeId} (h : Box w g #[v0, v1, v2, v3, v4, v5, v6] t) : Box (set7 w g u0 u1 u2 u3 u4 u5 u6) g #[u0, u1, u2, u3, u4, u5, u6] t := by
  have q := (((((((h.store 0 u0).store 1 u1).store 2 u2).store 3 u3).store 4 u4).store 5 u5).store 6 u6)
  unfold set7
  simpa using q
theorem below7 {B : Nat} {w0 w : World} {g : Nat} (h : Below B w0 w) (hg : B ≤ g) (u0 u1 u2 u3 u4 u5 u6 : Value) : Below B w0 (set7 w g u0 u1 u2 u3 u4 u5 u6) := (((((((h.setCell (p := ⟨g, 0, none⟩) hg u0).setCell (p := ⟨g, 1, none⟩) hg u1).setCell (p := ⟨g, 2, none⟩) hg u2).setCell (p := ⟨g, 3, none⟩) hg u3).setCell (p := ⟨g, 4, none⟩) hg u4).setCell (p := ⟨g, 5, none⟩) hg u5).setCell (p := ⟨g, 6, none⟩) hg u6)

/-- the blocks of the log of that many blocks -/
def lgs (n : Nat) : Nat := if n / 8 ≤ 16 then 16 else n / 8

theorem within_at (n a b : Int) (w : World) :
    Calls Try.prog 72 #[.int .i64 n, .int .i64 a, .int .i64 b] w fun r w' => r = .returned (.bool (decide (a ≤ n ∧ n ≤ b))) ∧ w = w' := by
  by_cases h1 : a ≤ n
  · by_cases h2 : n ≤ b
    · rw [decide_eq_true ⟨h1, h2⟩]
      go_enter Try.func72, Try.ntmps72
      go_wp2
      go_ret
      exact ⟨rfl, rfl⟩
    · rw [decide_eq_false (fun h => h2 h.2)]
      go_enter Try.func72, Try.ntmps72
      go_wp2
      go_ret
      exact ⟨rfl, rfl⟩
  · rw [decide_eq_false (fun h => h1 h.1)]
    go_enter Try.func72, Try.ntmps72
    go_wp2
    go_ret
    exact ⟨rfl, rfl⟩

theorem lgs_lo (n : Nat) (h : (n : Int) / 8 < 16) : lgs n = 16 := by unfold lgs; split <;> omega
theorem lgs_hi (n : Nat) (h : 16 ≤ (n : Int) / 8) : lgs n = n / 8 := by unfold lgs; split <;> omega
theorem lgs_ge (n : Nat) : 16 ≤ lgs n := by unfold lgs; split <;> omega
theorem lgs_le (n : Nat) (h : n ≤ 512) : lgs n ≤ 64 := by unfold lgs; split <;> omega
theorem lgs_free (n : Nat) (h0 : 64 ≤ n) : 3 + lgs n + n / 16 < n := by unfold lgs; split <;> omega

/-- the layout of n blocks, as a value's parts -/
def layA (n : Nat) : Array Value := #[.int .i64 n, .int .i64 2, .int .i64 (lgs n : Int), .int .i64 (2 + (lgs n : Int)), .int .i64 (3 + (lgs n : Int)), .int .i64 ((n : Int) / 16), .int .i64 (3 + (lgs n : Int) + (n : Int) / 16)]
def noneA : Array Value := #[.int .i64 0, .int .i64 0, .int .i64 0, .int .i64 0, .int .i64 0, .int .i64 0, .int .i64 0]

theorem laid_at (n : Nat) (w : World) (h0 : 64 ≤ n) (h1 : n ≤ 512) :
    Calls Try.prog 73 #[.int .i64 n] w fun r w' => r = .returned (.agg (layA n)) ∧ Below w.heap.size w w' := by
  unfold layA
  go_enter Try.func73, Try.ntmps73
  go_wp2
  · refine bodyPost_ret (by simp [results, Try.results73, go_sem]; rfl) rfl ⟨?_, ((Below.refl w.heap.size w).alloc (Nat.le_refl _) _).alloc (by simp) _⟩
    rw [lgs_lo n h]
    simp
  · refine bodyPost_ret (by simp [results, Try.results73, go_sem]; rfl) rfl ⟨?_, ((Below.refl w.heap.size w).alloc (Nat.le_refl _) _).alloc (by simp) _⟩
    rw [lgs_hi n h]
    simp
    omega

theorem of_good (n : Nat) (w : World) (h0 : 64 ≤ n) (h1 : n ≤ 512) :
    Calls Try.prog 46 #[.int .i64 n] w fun r w' => r = .returned (.tuple #[.agg (layA n), .int .i64 0]) ∧ Below w.heap.size w w' := by
  go_enter Try.func46, Try.ntmps46
  go_wp2_with fail
  refine (within_at _ _ _ _).mono ?_
  rintro r w1 ⟨rfl, rfl⟩
  rw [decide_eq_true (by omega)]
  go_wp2_with fail
  refine (laid_at n _ h0 h1).mono ?_
  rintro r w1 ⟨rfl, b1⟩
  have bx := (Box.new w #[.int .i64 0, .int .i64 0, .int .i64 0, .int .i64 0, .int .i64 0, .int .i64 0, .int .i64 0] 40).below b1
  have B1 := ((Below.refl w.heap.size w).alloc (Nat.le_refl _) _).trans (b1.mono (by simp))
  clear b1
  obtain ⟨c0, c1, c2, c3, c4, c5, c6⟩ := bx.all7
  obtain ⟨f0, f1, f2, f3, f4, f5, f6⟩ := bx.fr7
  unfold layA
  go_wp2_with fail
  have y := bx.store7 (u0 := .int .i64 n) (u1 := .int .i64 2) (u2 := .int .i64 (lgs n : Int)) (u3 := .int .i64 (2 + (lgs n : Int))) (u4 := .int .i64 (3 + (lgs n : Int))) (u5 := .int .i64 ((n : Int) / 16)) (u6 := .int .i64 (3 + (lgs n : Int) + (n : Int) / 16))
  unfold set7 at y
  have C1 := below7 B1 (Nat.le_refl _) (.int .i64 n) (.int .i64 2) (.int .i64 (lgs n : Int)) (.int .i64 (2 + (lgs n : Int))) (.int .i64 (3 + (lgs n : Int))) (.int .i64 ((n : Int) / 16)) (.int .i64 (3 + (lgs n : Int) + (n : Int) / 16))
  unfold set7 at C1
  clear bx B1 c0 c1 c2 c3 c4 c5 c6 f0 f1 f2 f3 f4 f5 f6
  obtain ⟨c0, c1, c2, c3, c4, c5, c6⟩ := y.all7
  refine bodyPost_ret (v := .tuple #[.agg (layA n), .int .i64 0]) (by simp only [layA]; simp [results, Try.results46, go_sem, c0, c1, c2, c3, c4, c5, c6]) rfl ⟨rfl, C1⟩

theorem of_bad (n : Int) (w : World) (h : ¬(64 ≤ n ∧ n ≤ 512)) :
    Calls Try.prog 46 #[.int .i64 n] w fun r w' => r = .returned (.tuple #[.agg noneA, .int .i64 2]) ∧ Below w.heap.size w w' := by
  go_enter Try.func46, Try.ntmps46
  go_wp2_with fail
  refine (within_at _ _ _ _).mono ?_
  rintro r w1 ⟨rfl, rfl⟩
  rw [decide_eq_false h]
  go_wp2_with fail
  refine bodyPost_ret (v := .tuple #[.agg noneA, .int .i64 2]) (by simp only [noneA]; simp [results, Try.results46, go_sem]) rfl ⟨rfl, (Below.refl _ _).alloc (Nat.le_refl _) _⟩

theorem fields23 : Try.prog.underlying 40 = some (.struct (Try.prog.fieldsOf 40)) := by kernel_rfl
theorem held23 : Try.prog.stoodInHeld 40 = false := by kernel_rfl
theorem guard23 : Try.prog.eqGuardType Try.prog.depth 40 = false := by kernel_rfl
/-- seven numbers are the same -/
def same7 (a b c d e f g a' b' c' d' e' f' g' : Int) : Bool := decide (a = a' ∧ b = b' ∧ c = c' ∧ d = d' ∧ e = e' ∧ f = f' ∧ g = g')
theorem eq23 (u : World) (a b c d e f g a' b' c' d' e' f' g' : Int) : (Op.equalIn 10000 40 (.agg #[.int .i64 a, .int .i64 b, .int .i64 c, .int .i64 d, .int .i64 e, .int .i64 f, .int .i64 g]) (.agg #[.int .i64 a', .int .i64 b', .int .i64 c', .int .i64 d', .int .i64 e', .int .i64 f', .int .i64 g'])).run Try.prog u = .ok (same7 a b c d e f g a' b' c' d' e' f' g') u := by
  rw [run_equalIn_agg u 9999 40 _ _ fields23 held23]
  simp only [Program.fieldsOf, Try.underlying40]
  simp [go_sem, Op.eqFields, Try.underlying3]
  unfold same7
  by_cases h1 : a = a' <;> simp [h1]
  by_cases h2 : b = b' <;> simp [h2]
  by_cases h3 : c = c' <;> simp [h3]
  by_cases h4 : d = d' <;> simp [h4]
  by_cases h5 : e = e' <;> simp [h5]
  by_cases h6 : f = f' <;> simp [h6]
  by_cases h7 : g = g' <;> simp [h7]
theorem eql23 (u : World) (a b c d e f g a' b' c' d' e' f' g' : Int) : (binOp .eql 40 (.agg #[.int .i64 a, .int .i64 b, .int .i64 c, .int .i64 d, .int .i64 e, .int .i64 f, .int .i64 g]) (.agg #[.int .i64 a', .int .i64 b', .int .i64 c', .int .i64 d', .int .i64 e', .int .i64 f', .int .i64 g'])).run Try.prog u = .ok (.bool (same7 a b c d e f g a' b' c' d' e' f' g')) u := by
  rw [run_eql_struct, eq23]
  rfl
theorem guardE23 (u : World) (x y : Operand) (xs ys : Array Value) : (eqGuard .eql 40 x y (.agg xs) (.agg ys)).run Try.prog u = .ok () u := run_eqGuard_agg u .eql 40 x y xs ys guard23

/-- is it the layout of its blocks -/
def IsLay (a b c d e f g : Int) : Prop := ∃ n : Nat, 64 ≤ n ∧ n ≤ 512 ∧ a = n ∧ b = 2 ∧ c = lgs n ∧ d = 2 + lgs n ∧ e = 3 + lgs n ∧ f = (n : Int) / 16 ∧ g = 3 + (lgs n : Int) + (n : Int) / 16

theorem ref_good (n : Nat) (w : World) (h0 : 64 ≤ n) (h1 : n ≤ 512) :
    Calls Try.prog 16 #[.int .i64 n] w fun r w' => r = .returned (.tuple #[.agg (layA n), .int .i64 0]) ∧ Below w.heap.size w w' := by
  unfold layA
  by_cases h : (n : Int) / 8 < 16
  · go_enter Try.func16, Try.ntmps16
    go_wp2
    refine bodyPost_ret (by simp [results, Try.results16, go_sem]; rfl) rfl ⟨?_, ((Below.refl w.heap.size w).alloc (Nat.le_refl _) _).alloc (by simp) _⟩
    rw [lgs_lo n h]
    simp
  · have h' : 16 ≤ (n : Int) / 8 := by omega
    go_enter Try.func16, Try.ntmps16
    go_wp2
    refine bodyPost_ret (by simp [results, Try.results16, go_sem]; rfl) rfl ⟨?_, ((Below.refl w.heap.size w).alloc (Nat.le_refl _) _).alloc (by simp) _⟩
    rw [lgs_hi n h']
    simp
    omega

theorem ref_bad (n : Int) (w : World) (h : ¬(64 ≤ n ∧ n ≤ 512)) :
    Calls Try.prog 16 #[.int .i64 n] w fun r w' => r = .returned (.tuple #[.agg noneA, .int .i64 2]) ∧ Below w.heap.size w w' := by
  by_cases h0 : n < 64
  · go_enter Try.func16, Try.ntmps16
    go_wp2
    exact bodyPost_ret (v := .tuple #[.agg noneA, .int .i64 2]) (by simp only [noneA]; simp [results, Try.results16, go_sem]) rfl ⟨rfl, ((Below.refl w.heap.size w).alloc (Nat.le_refl _) _)⟩
  · have h1 : 512 < n := by omega
    go_enter Try.func16, Try.ntmps16
    go_wp2
    exact bodyPost_ret (v := .tuple #[.agg noneA, .int .i64 2]) (by simp only [noneA]; simp [results, Try.results16, go_sem]) rfl ⟨rfl, ((Below.refl w.heap.size w).alloc (Nat.le_refl _) _)⟩

end Go.Proofs.Ytglahlbponlepaa.La

/-
  Open: of a disk, its own layout and numbers in bounds.
-/
namespace Go.Proofs.Ytglahlbponlepaa.J
open Go.RowKit
open Go.Proofs.Ytglahlbponlepaa.Dk (Box)

/-- a journal that was opened just now -/
def opened (n : Nat) (e s t : Int) : JS := ⟨2, e, s, s - 1, La.lgs n, t, 0, 0, false⟩

theorem neq40 (u : World) (n : Nat) : (binOp .neq 40 (.agg (La.layA n)) (.agg (La.layA n))).run Try.prog u = .ok (.bool false) u := by
  have h := La.eq23 u n 2 (La.lgs n) (2 + La.lgs n) (3 + La.lgs n) ((n : Int) / 16) (3 + (La.lgs n : Int) + (n : Int) / 16) n 2 (La.lgs n) (2 + La.lgs n) (3 + La.lgs n) ((n : Int) / 16) (3 + (La.lgs n : Int) + (n : Int) / 16)
  simp [La.same7] at h
  unfold La.layA
  simp only [binOp]
  simp [Op.equal, Op.maxDepth, h]

theorem open_good {g : Nat} {w : World} {D : Dk.DS} {F : Nat → Prop} {gd cd : Nat} {vu : Value} {ps : List (Nat × Nat × Nat)} (h : Dk.Lies w g D F gd cd vu ps) (hn : 64 ≤ D.nb) (hn' : D.nb ≤ 512)
    (e s t : Int) (he : 1 ≤ e ∧ e ≤ 8388608) (hs : 1 ≤ s ∧ s ≤ 549755813888) (ht : 0 ≤ t ∧ t ≤ (La.lgs D.nb : Int) - 1) :
    Calls Try.prog 17 #[.pointer (some ⟨g, 0, none⟩), .agg (La.layA D.nb), .int .i64 e, .int .i64 s, .int .i64 t] w fun r w' => ∃ j, w.heap.size ≤ j ∧ r = .returned (.tuple #[.pointer (some ⟨j, 0, none⟩), .int .i64 0]) ∧ Box w' j (jC j g (.slice none 0 0) (opened D.nb e s t)) 47 ∧ Below w.heap.size w w' := by
  have hq := neq40
  have B0 := (Below.refl w.heap.size w).alloc (Nat.le_refl _) (.cells (La.layA D.nb) 40)
  have l0 := Box.new w (La.layA D.nb) 40
  have hL := La.lgs_le D.nb hn'
  have hk : Dk.Lies (w.alloc (.cells (La.layA D.nb) 40)) g D F gd cd vu ps := h.kept (fun i hi => B0.block i (h.flt i hi)) B0.size
  have hgl := h.flt g h.fg
  have c1 := Dk.size_at hk
  generalize D.nb = n at *
  have hn0 : ((n : Int) = 0) = False := by simp; omega
  unfold La.layA at l0 B0 c1 hk ⊢
  go_enter Try.func17, Try.ntmps17
  go_wp2_with fail
  refine c1.mono ?_
  rintro r w1 ⟨rfl, rfl⟩
  go_wp2_with fail
  refine (La.of_good n _ hn hn').mono ?_
  rintro r w1 ⟨rfl, b1⟩
  unfold La.layA
  have B1 := B0.trans (b1.mono B0.size)
  have l1 := l0.below b1
  clear b1 c1 hk
  have l2 := l1.alloc (.cells #[.int .i64 n, .int .i64 2, .int .i64 (La.lgs n : Int), .int .i64 (2 + (La.lgs n : Int)), .int .i64 (3 + (La.lgs n : Int)), .int .i64 ((n : Int) / 16), .int .i64 (3 + (La.lgs n : Int) + (n : Int) / 16)] 40)
  have y0 := l2.cell 0
  have y1 := l2.cell 1
  have y2 := l2.cell 2
  have y3 := l2.cell 3
  have y4 := l2.cell 4
  have y5 := l2.cell 5
  have y6 := l2.cell 6
  simp at y0 y1 y2 y3 y4 y5 y6
  unfold La.layA at hq
  go_wp2_with fail
  refine (within_at _ _ _ _).mono ?_
  rintro r w2 ⟨rfl, rfl⟩
  rw [decide_eq_true he]
  go_wp2_with fail
  refine (within_at _ _ _ _).mono ?_
  rintro r w2 ⟨rfl, rfl⟩
  rw [decide_eq_true hs]
  go_wp2_with fail
  refine (within_at _ _ _ _).mono ?_
  rintro r w2 ⟨rfl, rfl⟩
  rw [decide_eq_true ht]
  go_wp2_with fail
  have hz := B1.size
  refine bodyPost_ret (v := .tuple #[.pointer (some ⟨w1.heap.size + 1, 0, none⟩), .int .i64 0]) (by simp [results, Try.results17, go_sem]) rfl ⟨w1.heap.size + 1, by omega, rfl, ?_, ?_⟩
  · have q := Box.new (w1.alloc (.cells #[.int .i64 n, .int .i64 2, .int .i64 (La.lgs n : Int), .int .i64 (2 + (La.lgs n : Int)), .int .i64 (3 + (La.lgs n : Int)), .int .i64 ((n : Int) / 16), .int .i64 (3 + (La.lgs n : Int) + (n : Int) / 16)] 40)) (jC (w1.heap.size + 1) g (.slice none 0 0) (opened n e s t)) 47
    rw [show (w1.alloc (.cells #[.int .i64 n, .int .i64 2, .int .i64 (La.lgs n : Int), .int .i64 (2 + (La.lgs n : Int)), .int .i64 (3 + (La.lgs n : Int)), .int .i64 ((n : Int) / 16), .int .i64 (3 + (La.lgs n : Int) + (n : Int) / 16)] 40)).heap.size = w1.heap.size + 1 by simp] at q
    exact q
  · exact (B1.alloc B1.size _).alloc (by simp; omega) _
end Go.Proofs.Ytglahlbponlepaa.J

/-
  The rest is asked of a journal that is whole; Flush.
-/
namespace Go.Proofs.Ytglahlbponlepaa.J
open Go.RowKit
open Go.Proofs.Ytglahlbponlepaa.Dk (Box)

theorem ahead_in31 {w : World} {g dg : Nat} {vs : Value} {J : JS} (h : Box w g (jC g dg vs J) 47) (hb : J.broken = false) (Q : Int → World → Prop) (caps : Array Value)
    (hc : Calls Try.prog 31 caps w fun r w' => ∃ e : Int, r = .returned (.int .i64 e) ∧ Q e w') :
    Calls Try.prog 24 #[.pointer (some ⟨g, 0, none⟩), .func (.func 31) #[] caps] w fun r w' => ∃ e : Int, r = .returned (.int .i64 e) ∧ Q e w' := by
  obtain ⟨c0, _, _, _, _, _, _, _, _, _, _, c11⟩ := box_cells h
  rw [hb] at c11
  go_enter Try.func24, Try.ntmps24
  go_wp2_with fail
  refine (isMade_cell g w c0).mono ?_
  rintro r w1 ⟨rfl, rfl⟩
  go_wp2_with fail
  refine hc.mono ?_
  rintro r w1 ⟨e, rfl, hq⟩
  go_wp2_with fail
  go_ret
  exact ⟨e, rfl, hq⟩
theorem ahead_in34 {w : World} {g dg : Nat} {vs : Value} {J : JS} (h : Box w g (jC g dg vs J) 47) (hb : J.broken = false) (Q : Int → World → Prop) (caps : Array Value)
    (hc : Calls Try.prog 34 caps w fun r w' => ∃ e : Int, r = .returned (.int .i64 e) ∧ Q e w') :
    Calls Try.prog 24 #[.pointer (some ⟨g, 0, none⟩), .func (.func 34) #[] caps] w fun r w' => ∃ e : Int, r = .returned (.int .i64 e) ∧ Q e w' := by
  obtain ⟨c0, _, _, _, _, _, _, _, _, _, _, c11⟩ := box_cells h
  rw [hb] at c11
  go_enter Try.func24, Try.ntmps24
  go_wp2_with fail
  refine (isMade_cell g w c0).mono ?_
  rintro r w1 ⟨rfl, rfl⟩
  go_wp2_with fail
  refine hc.mono ?_
  rintro r w1 ⟨e, rfl, hq⟩
  go_wp2_with fail
  go_ret
  exact ⟨e, rfl, hq⟩
theorem ahead_in41 {w : World} {g dg : Nat} {vs : Value} {J : JS} (h : Box w g (jC g dg vs J) 47) (hb : J.broken = false) (Q : Int → World → Prop) (caps : Array Value)
    (hc : Calls Try.prog 41 caps w fun r w' => ∃ e : Int, r = .returned (.int .i64 e) ∧ Q e w') :
    Calls Try.prog 24 #[.pointer (some ⟨g, 0, none⟩), .func (.func 41) #[] caps] w fun r w' => ∃ e : Int, r = .returned (.int .i64 e) ∧ Q e w' := by
  obtain ⟨c0, _, _, _, _, _, _, _, _, _, _, c11⟩ := box_cells h
  rw [hb] at c11
  go_enter Try.func24, Try.ntmps24
  go_wp2_with fail
  refine (isMade_cell g w c0).mono ?_
  rintro r w1 ⟨rfl, rfl⟩
  go_wp2_with fail
  refine hc.mono ?_
  rintro r w1 ⟨e, rfl, hq⟩
  go_wp2_with fail
  go_ret
  exact ⟨e, rfl, hq⟩
theorem ahead_in43 {w : World} {g dg : Nat} {vs : Value} {J : JS} (h : Box w g (jC g dg vs J) 47) (hb : J.broken = false) (Q : Int → World → Prop) (caps : Array Value)
    (hc : Calls Try.prog 43 caps w fun r w' => ∃ e : Int, r = .returned (.int .i64 e) ∧ Q e w') :
    Calls Try.prog 24 #[.pointer (some ⟨g, 0, none⟩), .func (.func 43) #[] caps] w fun r w' => ∃ e : Int, r = .returned (.int .i64 e) ∧ Q e w' := by
  obtain ⟨c0, _, _, _, _, _, _, _, _, _, _, c11⟩ := box_cells h
  rw [hb] at c11
  go_enter Try.func24, Try.ntmps24
  go_wp2_with fail
  refine (isMade_cell g w c0).mono ?_
  rintro r w1 ⟨rfl, rfl⟩
  go_wp2_with fail
  refine hc.mono ?_
  rintro r w1 ⟨e, rfl, hq⟩
  go_wp2_with fail
  go_ret
  exact ⟨e, rfl, hq⟩
theorem ahead_in25 {w : World} {g dg : Nat} {vs : Value} {J : JS} (h : Box w g (jC g dg vs J) 47) (hb : J.broken = false) (Q : Int → World → Prop) (caps : Array Value)
    (hc : Calls Try.prog 25 caps w fun r w' => ∃ e : Int, r = .returned (.int .i64 e) ∧ Q e w') :
    Calls Try.prog 24 #[.pointer (some ⟨g, 0, none⟩), .func (.func 25) #[] caps] w fun r w' => ∃ e : Int, r = .returned (.int .i64 e) ∧ Q e w' := by
  obtain ⟨c0, _, _, _, _, _, _, _, _, _, _, c11⟩ := box_cells h
  rw [hb] at c11
  go_enter Try.func24, Try.ntmps24
  go_wp2_with fail
  refine (isMade_cell g w c0).mono ?_
  rintro r w1 ⟨rfl, rfl⟩
  go_wp2_with fail
  refine hc.mono ?_
  rintro r w1 ⟨e, rfl, hq⟩
  go_wp2_with fail
  go_ret
  exact ⟨e, rfl, hq⟩

theorem flush1_at (w : World) : Calls Try.prog 31 #[] w fun r w' => r = .returned (.int .i64 0) ∧ w = w' := by
  go_enter Try.func31, Try.ntmps31
  go_wp2_with fail
  go_ret
  exact ⟨rfl, rfl⟩

theorem flush_good {w : World} {g dg : Nat} {vs : Value} {J : JS} {D : Dk.DS} {F : Nat → Prop} (h : Box w g (jC g dg vs J) 47) (hd : Dk.IsDisk w dg D F) (hg : ¬ F g) (hb : J.broken = false) (hE : D.operE = 0) (h1 : 1 ≤ J.next) (h2 : J.next ≤ 549755813889) :
    Calls Try.prog 9 #[.pointer (some ⟨g, 0, none⟩)] w fun r w' => r = .returned (.int .i64 0) ∧ ∃ u, Dk.IsDisk u dg D.flush F ∧ Dk.Upd F w u ∧ Box u g (jC g dg vs J) 47 ∧ w' = u.setCell ⟨g, 5, none⟩ (.int .i64 (J.next - 1)) := by
  have a := ahead_in31 h hb (fun e w' => e = 0 ∧ w = w') #[] ((flush1_at w).mono (by rintro r w' ⟨rfl, rfl⟩; exact ⟨0, rfl, rfl, rfl⟩))
  have c1 := (box_cells h).2.1
  have cf := Dk.flush_at hd
  rw [hE] at cf
  go_enter Try.func9, Try.ntmps9
  go_wp2_with fail
  refine a.mono ?_
  rintro r w1 ⟨e, rfl, rfl, rfl⟩
  go_wp2_with fail
  refine cf.mono ?_
  rintro r u ⟨rfl, hd', hu⟩
  have h' : Box u g (jC g dg vs J) 47 := (hu.block g h.lt hg).trans h
  go_wp2_with fail
  refine (asked_ok g u).mono ?_
  rintro r w1 ⟨rfl, rfl⟩
  obtain ⟨_, _, _, _, c4, c5, _, _, _, _, _, _⟩ := box_cells h'
  have f5 := h'.frozen 5
  go_wp2_with fail
  go_ret
  exact ⟨rfl, _, hd', hu, h', rfl⟩
end Go.Proofs.Ytglahlbponlepaa.J

/-
  ring's own calls: within, Right, Free, behind, ask with its closures, At, Reserve, Release, Put, Drop.
-/
namespace Go.Proofs.Ytglahlbponlepaa.Rg
open Go.RowKit

/-- a block that was made for one value -/
def Box (w : World) (g : Nat) (cs : Array Value) (t : TypeId) : Prop := w.heap[g]? = some (.cells cs t (0, 0))
theorem Box.cell {w : World} {g : Nat} {cs : Array Value} {t : TypeId} (h : Box w g cs t) (j : Nat) : w.cell? ⟨g, j, none⟩ = cs[j]? := cell_of_row w g j cs t (0, 0) h
theorem Box.lt {w : World} {g : Nat} {cs : Array Value} {t : TypeId} (h : Box w g cs t) : g < w.heap.size := (Array.getElem?_eq_some_iff.1 h).1
theorem Box.below {w w' : World} {g : Nat} {cs : Array Value} {t : TypeId} (h : Box w g cs t) (hb : Below w.heap.size w w') : Box w' g cs t := (hb.block g h.lt).trans h
theorem Box.new (w : World) (cs : Array Value) (t : TypeId) : Box (w.alloc (.cells cs t)) w.heap.size cs t := heap_alloc_new w _
theorem Box.frozen {w : World} {g : Nat} {cs : Array Value} {t : TypeId} (h : Box w g cs t) (j : Nat) : w.frozen? ⟨g, j, none⟩ = false := frozen_of_row w g j cs t h
theorem Box.store {w : World} {g : Nat} {cs : Array Value} {t : TypeId} (h : Box w g cs t) (j : Nat) (v : Value) : Box (w.setCell ⟨g, j, none⟩ v) g (cs.setIfInBounds j v) t := heap_setCell_same w g j cs t v h
theorem Box.other {w : World} {g k : Nat} {cs : Array Value} {t : TypeId} (h : Box w g cs t) (j : Nat) (v : Value) (hn : g ≠ k) : Box (w.setCell ⟨k, j, none⟩ v) g cs t := (heap_setCell_other w ⟨k, j, none⟩ g v hn).trans h
theorem Box.alloc {w : World} {g : Nat} {cs : Array Value} {t : TypeId} (h : Box w g cs t) (o : Obj) : Box (w.alloc o) g cs t := (Below.heap_alloc w o g h.lt).trans h
theorem Box.next (w : World) (o : Obj) (cs : Array Value) (t : TypeId) : Box ((w.alloc o).alloc (.cells cs t)) (w.heap.size + 1) cs t := by
  have := Box.new (w.alloc o) cs t
  simpa using this
theorem Box.next2 (w : World) (o o' : Obj) (cs : Array Value) (t : TypeId) : Box (((w.alloc o).alloc o').alloc (.cells cs t)) (w.heap.size + 2) cs t := by
  have := Box.new ((w.alloc o).alloc o') cs t
  simpa using this
theorem Box.next3 (w : World) (o o' o'' : Obj) (cs : Array Value) (t : TypeId) : Box ((((w.alloc o).alloc o').alloc o'').alloc (.cells cs t)) (w.heap.size + 3) cs t := by
  have := Box.new (((w.alloc o).alloc o').alloc o'') cs t
  simpa using this
theorem Box.all4 {w : World} {g : Nat} {v0 v1 v2 v3 : Value} {t : TypeId} (h : Box w g #[v0, v1, v2, v3] t) : w.cell? ⟨g, 0, none⟩ = some v0 ∧ w.cell? ⟨g, 1, none⟩ = some v1 ∧ w.cell? ⟨g, 2, none⟩ = some v2 ∧ w.cell? ⟨g, 3, none⟩ = some v3 :=
  ⟨h.cell 0, h.cell 1, h.cell 2, h.cell 3⟩
theorem Box.fr4 {w : World} {g : Nat} {cs : Array Value} {t : TypeId} (h : Box w g cs t) : w.frozen? ⟨g, 0, none⟩ = false ∧ w.frozen? ⟨g, 1, none⟩ = false ∧ w.frozen? ⟨g, 2, none⟩ = false ∧ w.frozen? ⟨g, 3, none⟩ = false :=
  ⟨h.frozen 0, h.frozen 1, h.frozen 2, h.frozen 3⟩
theorem Box.one {w : World} {g : Nat} {v0 : Value} {t : TypeId} (h : Box w g #[v0] t) : w.cell? ⟨g, 0, none⟩ = some v0 := h.cell 0
theorem keep {w wk w' : World} (B : Below w.heap.size w wk) (b : Below wk.heap.size wk w') : Below w.heap.size w w' := B.trans (b.mono B.size)
theorem keepA {w wk w' : World} {o : Obj} (B : Below w.heap.size w wk) (b : Below (wk.alloc o).heap.size (wk.alloc o) w') : Below w.heap.size w w' := keep (B.alloc B.size o) b

/-- the numbers make a right ring -/
def R (S T U H : Int) : Prop := (1 ≤ S ∧ S ≤ 512) ∧ (0 ≤ T ∧ T ≤ S - 1) ∧ (0 ≤ U ∧ U ≤ S) ∧ (0 ≤ H ∧ H ≤ S - U)
instance (S T U H : Int) : Decidable (R S T U H) := by unfold R; infer_instance
/-- a ring as a value's parts -/
def ri (S T U H : Int) : Array Value := #[.int .i64 S, .int .i64 T, .int .i64 U, .int .i64 H]

theorem within_at (n a b : Int) (w : World) :
    Calls Try.prog 59 #[.int .i64 n, .int .i64 a, .int .i64 b] w fun r w' => r = .returned (.bool (decide (a ≤ n ∧ n ≤ b))) ∧ w = w' := by
  by_cases h1 : a ≤ n
  · by_cases h2 : n ≤ b
    · rw [decide_eq_true ⟨h1, h2⟩]
      go_enter Try.func59, Try.ntmps59
      go_wp2
      go_ret
      exact ⟨rfl, rfl⟩
    · rw [decide_eq_false (fun h => h2 h.2)]
      go_enter Try.func59, Try.ntmps59
      go_wp2
      go_ret
      exact ⟨rfl, rfl⟩
  · rw [decide_eq_false (fun h => h1 h.1)]
    go_enter Try.func59, Try.ntmps59
    go_wp2
    go_ret
    exact ⟨rfl, rfl⟩

theorem right_at (S T U H : Int) (w : World) :
    Calls Try.prog 79 #[.agg (ri S T U H)] w fun r w' => r = .returned (.bool (decide (R S T U H))) ∧ Below w.heap.size w w' := by
  unfold ri
  have B := (Below.refl w.heap.size w).alloc (Nat.le_refl _) (.cells #[.int .i64 S, .int .i64 T, .int .i64 U, .int .i64 H] 37)
  by_cases h1 : 1 ≤ S ∧ S ≤ 512
  · by_cases h2 : 0 ≤ T ∧ T ≤ S - 1
    · by_cases h3 : 0 ≤ U ∧ U ≤ S
      · have e : decide (R S T U H) = decide (0 ≤ H ∧ H ≤ S - U) := decide_eq_decide.2 ⟨fun h => h.2.2.2, fun h => ⟨h1, h2, h3, h⟩⟩
        rw [e]
        go_enter Try.func79, Try.ntmps79
        go_wp2_with fail
        refine (within_at _ _ _ _).mono ?_
        rintro r w1 ⟨rfl, rfl⟩
        rw [decide_eq_true h1]
        go_wp2_with fail
        refine (within_at _ _ _ _).mono ?_
        rintro r w1 ⟨rfl, rfl⟩
        rw [decide_eq_true h2]
        go_wp2_with fail
        refine (within_at _ _ _ _).mono ?_
        rintro r w1 ⟨rfl, rfl⟩
        rw [decide_eq_true h3]
        go_wp2_with fail
        refine (within_at _ _ _ _).mono ?_
        rintro r w1 ⟨rfl, rfl⟩
        go_wp2_with fail
        go_ret
        exact ⟨by simp, B⟩
      · rw [decide_eq_false (p := R S T U H) (fun h => h3 h.2.2.1)]
        go_enter Try.func79, Try.ntmps79
        go_wp2_with fail
        refine (within_at _ _ _ _).mono ?_
        rintro r w1 ⟨rfl, rfl⟩
        rw [decide_eq_true h1]
        go_wp2_with fail
        refine (within_at _ _ _ _).mono ?_
        rintro r w1 ⟨rfl, rfl⟩
        rw [decide_eq_true h2]
        go_wp2_with fail
        refine (within_at _ _ _ _).mono ?_
        rintro r w1 ⟨rfl, rfl⟩
        rw [decide_eq_false h3]
        go_wp2_with fail
        go_ret
        exact ⟨rfl, B⟩
    · rw [decide_eq_false (p := R S T U H) (fun h => h2 h.2.1)]
      go_enter Try.func79, Try.ntmps79
      go_wp2_with fail
      refine (within_at _ _ _ _).mono ?_
      rintro r w1 ⟨rfl, rfl⟩
      rw [decide_eq_true h1]
      go_wp2_with fail
      refine (within_at _ _ _ _).mono ?_
      rintro r w1 ⟨rfl, rfl⟩
      rw [decide_eq_false h2]
      go_wp2_with fail
      go_ret
      exact ⟨rfl, B⟩
  · rw [decide_eq_false (p := R S T U H) (fun h => h1 h.1)]
    go_enter Try.func79, Try.ntmps79
    go_wp2_with fail
    refine (within_at _ _ _ _).mono ?_
    rintro r w1 ⟨rfl, rfl⟩
    rw [decide_eq_false h1]
    go_wp2_with fail
    go_ret
    exact ⟨rfl, B⟩

/-- what is free -/
def fr (S T U H : Int) : Int := if R S T U H then S - U - H else 0
theorem free_at (S T U H : Int) (w : World) :
    Calls Try.prog 62 #[.agg (ri S T U H)] w fun r w' => r = .returned (.int .i64 (fr S T U H)) ∧ Below w.heap.size w w' := by
  have B := (Below.refl w.heap.size w).alloc (Nat.le_refl _) (.cells (ri S T U H) 37)
  have bx := Box.new w (ri S T U H) 37
  unfold ri at *
  by_cases h : R S T U H
  · rw [fr, if_pos h]
    go_enter Try.func62, Try.ntmps62
    go_wp2_with fail
    refine (right_at _ _ _ _ _).mono ?_
    rintro r w1 ⟨rfl, b1⟩
    have bx1 := bx.below b1
    have B1 := keep B b1
    clear bx B b1
    obtain ⟨c0, c1, c2, c3⟩ := bx1.all4
    rw [decide_eq_true h]
    obtain ⟨h1, h2, h3, h4⟩ := h
    go_wp2_with fail
    go_ret
    exact ⟨rfl, B1⟩
  · rw [fr, if_neg h]
    go_enter Try.func62, Try.ntmps62
    go_wp2_with fail
    refine (right_at _ _ _ _ _).mono ?_
    rintro r w1 ⟨rfl, b1⟩
    have B1 := keep B b1
    clear bx B b1
    rw [decide_eq_false h]
    go_wp2_with fail
    go_ret
    exact ⟨rfl, B1⟩

theorem behind_at (S T U H n : Int) (w : World) (hS : 1 ≤ S) (hS' : S ≤ 512) (hT : 0 ≤ T) (hT' : T < S) (hn : 0 ≤ n) (hn' : n ≤ S) :
    Calls Try.prog 63 #[.agg (ri S T U H), .int .i64 n] w fun r w' => r = .returned (.int .i64 ((T + n) % S)) ∧ Below w.heap.size w w' := by
  have B := (Below.refl w.heap.size w).alloc (Nat.le_refl _) (.cells (ri S T U H) 37)
  have bx := Box.new w (ri S T U H) 37
  have e : (T + n).tmod S = (T + n) % S := Int.tmod_eq_emod_of_nonneg (by omega)
  unfold ri at *
  obtain ⟨c0, c1, c2, c3⟩ := bx.all4
  go_enter Try.func63, Try.ntmps63
  go_wp2_with fail
  go_ret
  exact ⟨by simp, B⟩

end Go.Proofs.Ytglahlbponlepaa.Rg

/-
  ask, whatever closure it is handed.
-/
namespace Go.Proofs.Ytglahlbponlepaa.Rg
open Go.RowKit

theorem ask_bad (S T U H n no : Int) (f : Value) (w : World) (h : ¬(R S T U H ∧ 0 ≤ n)) :
    Calls Try.prog 60 #[.agg (ri S T U H), .int .i64 n, f, .int .i64 no] w fun r w' => r = .returned (.int .i64 2) ∧ Below w.heap.size w w' := by
  have B := (Below.refl w.heap.size w).alloc (Nat.le_refl _) (.cells (ri S T U H) 37)
  unfold ri at *
  by_cases hR : R S T U H
  · have hn : n < 0 := by
      by_cases q : 0 ≤ n
      · exact absurd ⟨hR, q⟩ h
      · omega
    go_enter Try.func60, Try.ntmps60
    go_wp2_with fail
    refine (right_at _ _ _ _ _).mono ?_
    rintro r w1 ⟨rfl, b1⟩
    have B1 := keep B b1
    clear B b1
    rw [decide_eq_true hR]
    go_wp2_with fail
    go_ret
    exact ⟨rfl, B1⟩
  · go_enter Try.func60, Try.ntmps60
    go_wp2_with fail
    refine (right_at _ _ _ _ _).mono ?_
    rintro r w1 ⟨rfl, b1⟩
    have B1 := keep B b1
    clear B b1
    rw [decide_eq_false hR]
    go_wp2_with fail
    go_ret
    exact ⟨rfl, B1⟩

theorem ask_in22 (caps : Array Value) (S T U H n no : Int) (m : Bool) (w : World) (hR : R S T U H) (hn : 0 ≤ n)
    (hm : ∀ w', Below w.heap.size w w' → Calls Try.prog 70 caps w' fun r w'' => r = .returned (.bool m) ∧ Below w'.heap.size w' w'') :
    Calls Try.prog 60 #[.agg (ri S T U H), .int .i64 n, .func (.func 70) #[] caps, .int .i64 no] w fun r w' => r = .returned (.int .i64 (if m then 0 else no)) ∧ Below w.heap.size w w' := by
  have B := (Below.refl w.heap.size w).alloc (Nat.le_refl _) (.cells (ri S T U H) 37)
  unfold ri at *
  cases m
  · rw [if_neg (by simp)]
    go_enter Try.func60, Try.ntmps60
    go_wp2_with fail
    refine (right_at _ _ _ _ _).mono ?_
    rintro r w1 ⟨rfl, b1⟩
    have B1 := keep B b1
    clear B b1
    rw [decide_eq_true hR]
    go_wp2_with fail
    refine (hm _ B1).mono ?_
    rintro r w2 ⟨rfl, b2⟩
    have B2 := keep B1 b2
    go_wp2_with fail
    go_ret
    exact ⟨rfl, B2⟩
  · rw [if_pos rfl]
    go_enter Try.func60, Try.ntmps60
    go_wp2_with fail
    refine (right_at _ _ _ _ _).mono ?_
    rintro r w1 ⟨rfl, b1⟩
    have B1 := keep B b1
    clear B b1
    rw [decide_eq_true hR]
    go_wp2_with fail
    refine (hm _ B1).mono ?_
    rintro r w2 ⟨rfl, b2⟩
    have B2 := keep B1 b2
    go_wp2_with fail
    go_ret
    exact ⟨rfl, B2⟩

theorem ask_in24 (caps : Array Value) (S T U H n no : Int) (m : Bool) (w : World) (hR : R S T U H) (hn : 0 ≤ n)
    (hm : ∀ w', Below w.heap.size w w' → Calls Try.prog 68 caps w' fun r w'' => r = .returned (.bool m) ∧ Below w'.heap.size w' w'') :
    Calls Try.prog 60 #[.agg (ri S T U H), .int .i64 n, .func (.func 68) #[] caps, .int .i64 no] w fun r w' => r = .returned (.int .i64 (if m then 0 else no)) ∧ Below w.heap.size w w' := by
  have B := (Below.refl w.heap.size w).alloc (Nat.le_refl _) (.cells (ri S T U H) 37)
  unfold ri at *
  cases m
  · rw [if_neg (by simp)]
    go_enter Try.func60, Try.ntmps60
    go_wp2_with fail
    refine (right_at _ _ _ _ _).mono ?_
    rintro r w1 ⟨rfl, b1⟩
    have B1 := keep B b1
    clear B b1
    rw [decide_eq_true hR]
    go_wp2_with fail
    refine (hm _ B1).mono ?_
    rintro r w2 ⟨rfl, b2⟩
    have B2 := keep B1 b2
    go_wp2_with fail
    go_ret
    exact ⟨rfl, B2⟩
  · rw [if_pos rfl]
    go_enter Try.func60, Try.ntmps60
    go_wp2_with fail
    refine (right_at _ _ _ _ _).mono ?_
    rintro r w1 ⟨rfl, b1⟩
    have B1 := keep B b1
    clear B b1
    rw [decide_eq_true hR]
    go_wp2_with fail
    refine (hm _ B1).mono ?_
    rintro r w2 ⟨rfl, b2⟩
    have B2 := keep B1 b2
    go_wp2_with fail
    go_ret
    exact ⟨rfl, B2⟩

theorem ask_in26 (caps : Array Value) (S T U H n no : Int) (m : Bool) (w : World) (hR : R S T U H) (hn : 0 ≤ n)
    (hm : ∀ w', Below w.heap.size w w' → Calls Try.prog 71 caps w' fun r w'' => r = .returned (.bool m) ∧ Below w'.heap.size w' w'') :
    Calls Try.prog 60 #[.agg (ri S T U H), .int .i64 n, .func (.func 71) #[] caps, .int .i64 no] w fun r w' => r = .returned (.int .i64 (if m then 0 else no)) ∧ Below w.heap.size w w' := by
  have B := (Below.refl w.heap.size w).alloc (Nat.le_refl _) (.cells (ri S T U H) 37)
  unfold ri at *
  cases m
  · rw [if_neg (by simp)]
    go_enter Try.func60, Try.ntmps60
    go_wp2_with fail
    refine (right_at _ _ _ _ _).mono ?_
    rintro r w1 ⟨rfl, b1⟩
    have B1 := keep B b1
    clear B b1
    rw [decide_eq_true hR]
    go_wp2_with fail
    refine (hm _ B1).mono ?_
    rintro r w2 ⟨rfl, b2⟩
    have B2 := keep B1 b2
    go_wp2_with fail
    go_ret
    exact ⟨rfl, B2⟩
  · rw [if_pos rfl]
    go_enter Try.func60, Try.ntmps60
    go_wp2_with fail
    refine (right_at _ _ _ _ _).mono ?_
    rintro r w1 ⟨rfl, b1⟩
    have B1 := keep B b1
    clear B b1
    rw [decide_eq_true hR]
    go_wp2_with fail
    refine (hm _ B1).mono ?_
    rintro r w2 ⟨rfl, b2⟩
    have B2 := keep B1 b2
    go_wp2_with fail
    go_ret
    exact ⟨rfl, B2⟩

theorem ask_in27 (caps : Array Value) (S T U H n no : Int) (m : Bool) (w : World) (hR : R S T U H) (hn : 0 ≤ n)
    (hm : ∀ w', Below w.heap.size w w' → Calls Try.prog 58 caps w' fun r w'' => r = .returned (.bool m) ∧ Below w'.heap.size w' w'') :
    Calls Try.prog 60 #[.agg (ri S T U H), .int .i64 n, .func (.func 58) #[] caps, .int .i64 no] w fun r w' => r = .returned (.int .i64 (if m then 0 else no)) ∧ Below w.heap.size w w' := by
  have B := (Below.refl w.heap.size w).alloc (Nat.le_refl _) (.cells (ri S T U H) 37)
  unfold ri at *
  cases m
  · rw [if_neg (by simp)]
    go_enter Try.func60, Try.ntmps60
    go_wp2_with fail
    refine (right_at _ _ _ _ _).mono ?_
    rintro r w1 ⟨rfl, b1⟩
    have B1 := keep B b1
    clear B b1
    rw [decide_eq_true hR]
    go_wp2_with fail
    refine (hm _ B1).mono ?_
    rintro r w2 ⟨rfl, b2⟩
    have B2 := keep B1 b2
    go_wp2_with fail
    go_ret
    exact ⟨rfl, B2⟩
  · rw [if_pos rfl]
    go_enter Try.func60, Try.ntmps60
    go_wp2_with fail
    refine (right_at _ _ _ _ _).mono ?_
    rintro r w1 ⟨rfl, b1⟩
    have B1 := keep B b1
    clear B b1
    rw [decide_eq_true hR]
    go_wp2_with fail
    refine (hm _ B1).mono ?_
    rintro r w2 ⟨rfl, b2⟩
    have B2 := keep B1 b2
    go_wp2_with fail
    go_ret
    exact ⟨rfl, B2⟩

theorem ask_in29 (caps : Array Value) (S T U H n no : Int) (m : Bool) (w : World) (hR : R S T U H) (hn : 0 ≤ n)
    (hm : ∀ w', Below w.heap.size w w' → Calls Try.prog 61 caps w' fun r w'' => r = .returned (.bool m) ∧ Below w'.heap.size w' w'') :
    Calls Try.prog 60 #[.agg (ri S T U H), .int .i64 n, .func (.func 61) #[] caps, .int .i64 no] w fun r w' => r = .returned (.int .i64 (if m then 0 else no)) ∧ Below w.heap.size w w' := by
  have B := (Below.refl w.heap.size w).alloc (Nat.le_refl _) (.cells (ri S T U H) 37)
  unfold ri at *
  cases m
  · rw [if_neg (by simp)]
    go_enter Try.func60, Try.ntmps60
    go_wp2_with fail
    refine (right_at _ _ _ _ _).mono ?_
    rintro r w1 ⟨rfl, b1⟩
    have B1 := keep B b1
    clear B b1
    rw [decide_eq_true hR]
    go_wp2_with fail
    refine (hm _ B1).mono ?_
    rintro r w2 ⟨rfl, b2⟩
    have B2 := keep B1 b2
    go_wp2_with fail
    go_ret
    exact ⟨rfl, B2⟩
  · rw [if_pos rfl]
    go_enter Try.func60, Try.ntmps60
    go_wp2_with fail
    refine (right_at _ _ _ _ _).mono ?_
    rintro r w1 ⟨rfl, b1⟩
    have B1 := keep B b1
    clear B b1
    rw [decide_eq_true hR]
    go_wp2_with fail
    refine (hm _ B1).mono ?_
    rintro r w2 ⟨rfl, b2⟩
    have B2 := keep B1 b2
    go_wp2_with fail
    go_ret
    exact ⟨rfl, B2⟩

end Go.Proofs.Ytglahlbponlepaa.Rg
