/-
  Writes that are carried out upon an image.
-/
import Derived.Test.YtagnmmapnpcijaaPower
import Derived.Test.YtagnmmapnpcijaaMake
namespace Go.Proofs.Ytagnmmapnpcijaa
open Go.RowKit

theorem Upd.box {F : Nat → Prop} {w w' : World} {g : Nat} {cs : Array Value} {t : TypeId} (h : Upd F w w') (hb : Box w g cs t) (hg : ¬ F g) : Box w' g cs t := (h.block g hb.lt hg).trans hb
theorem Upd.rowB {F : Nat → Prop} {w w' : World} {g cap : Nat} {ys : List UInt8} (h : Upd F w w') (hb : RowB w g cap ys) (hg : ¬ F g) : RowB w' g cap ys := hb.same (h.block g hb.lt hg)
theorem Rd.part {w : World} {g o : Nat} {xs : List UInt8} (h : Rd w (some ⟨g, o, none⟩) xs) (k n : Nat) : Rd w (some ⟨g, o + k, none⟩) ((xs.drop k).take n) := fun hp => by
  have hk : k < xs.length := by simp at hp; omega
  obtain ⟨b', o', he, hc⟩ := h (by omega)
  simp only [Option.some.injEq, Addr.mk.injEq, and_true] at he
  obtain ⟨rfl, rfl⟩ := he
  refine ⟨g, o + k, rfl, fun j hj => ?_⟩
  have hj' : k + j < xs.length := by simp at hj; omega
  rw [Nat.add_assoc, hc (k + j) hj']
  simp

theorem and_one8 (a : Nat) (ha : a < 256) : bits .and .u8 (a : Int) 1 = ((a % 2 : Nat) : Int) := by
  have h := bits_mask .u8 8 (by decide) (fun n h0 h1 => by rw [IntKind.wrap_u8]; omega) 1 (by decide) (a : Int) (by omega) (by omega)
  simpa using h
theorem bitI (m k : Nat) (hm : m < 256) : (bits .and .u8 ((m : Int) / 2 ^ k) 1 == 1) = bit m k := by
  unfold bit
  have e : ((m : Int) / 2 ^ k) = ((m / 2 ^ k : Nat) : Int) := by push_cast; rfl
  rw [e, and_one8 _ (Nat.lt_of_le_of_lt (Nat.div_le_self _ _) hm)]
  rcases Nat.mod_two_eq_zero_or_one (m / 2 ^ k) with h | h <;> rw [h] <;> rfl

theorem part_i (g o len cap n size : Nat) (N S : Int) (w : World) (hN : N = (n : Int)) (hS : S = (size : Int)) (hf : n * size + size ≤ cap) (hc : cap ≤ 9223372036854775807) (hs : 0 < size) :
    Calls Try.prog 57 #[.slice (some ⟨g, o, none⟩) len cap, .int .i64 N, .int .i64 S] w fun e w' => e = .returned (.slice (some ⟨g, o + n * size, none⟩) size size) ∧ w = w' := by
  subst hN hS
  exact part_at g o len cap n size w hf hc hs

set_option maxRecDepth 100000 in
set_option maxHeartbeats 1000000 in
theorem carryOut_at (b gk ck gd cd L m : Nat) (data d : List UInt8) (w : World) (hk : RowB w gk ck data) (hd : RowB w gd cd d) (hne : gk ≠ gd) (hdl : data.length = 4096) (hL : d.length = L) (hb : b * 4096 + 4096 ≤ L) (hm : m < 256) :
    Calls Try.prog 40 #[.agg #[.int .i64 (b : Int), .slice (some ⟨gk, 0, none⟩) 4096 ck], .slice (some ⟨gd, 0, none⟩) L cd, .int .u8 (m : Int)] w fun e w' => e = .returned (.tuple #[]) ∧ RowB w' gd cd (carry d b data m) ∧ Upd (fun i => i = gd) w w' := by
  have x0 := Box.new w #[.int .i64 (b : Int), .slice (some ⟨gk, 0, none⟩) 4096 ck] 79
  have U0 := (Upd.refl (fun i => i = gd) w).alloc (.cells #[.int .i64 (b : Int), .slice (some ⟨gk, 0, none⟩) 4096 ck] 79)
  have hglt := hd.lt
  have hklt := hk.lt
  have hcd : L ≤ cd ∧ cd ≤ 9223372036854775807 := by
    obtain ⟨_, _, h1, h2, _⟩ := hd
    unfold maxLen at h2
    omega
  have hck : 4096 ≤ ck ∧ ck ≤ 9223372036854775807 := by
    obtain ⟨_, _, h1, h2, _⟩ := hk
    unfold maxLen at h2
    omega
  go_enter Try.func40, Try.ntmps40
  go_wp2_with fail
  obtain ⟨W, hW⟩ : ∃ W, W = w.alloc (.cells #[.int .i64 (b : Int), .slice (some ⟨gk, 0, none⟩) 4096 ck] 79) := ⟨_, rfl⟩
  rw [← hW] at x0 U0 ⊢
  have k0 := U0.rowB hk (fun h => hne h)
  have d0 : RowB W gd cd d := hd.same (by rw [hW]; exact Below.heap_alloc w _ gd hglt)
  obtain ⟨G, hG⟩ : ∃ G, G = w.heap.size := ⟨_, rfl⟩
  rw [← hG] at x0 ⊢
  have HL : Hid _ := hL
  have Hdl : Hid _ := hdl
  have hGd : G ≠ gd := by omega
  clear hW hG hk hd hL hdl hglt hklt
  refine (part_i gd 0 L cd b 4096 _ _ W rfl rfl (by omega) (by omega) (by omega)).mono ?_
  rintro e w' ⟨rfl, rfl⟩
  rw [Nat.zero_add]
  obtain ⟨O, hO⟩ : ∃ O, O = b * 4096 := ⟨_, rfl⟩
  rw [← hO]
  have HO : Hid _ := hO
  rw [← hO] at hb
  clear hO
  go_wp2_with fail
  go_loopw [12] (fun i wr => ∃ k : Nat, k ≤ 8 ∧ i = .int .i64 k ∧ Box wr G #[.int .i64 (b : Int), .slice (some ⟨gk, 0, none⟩) 4096 ck] 79 ∧ RowB wr gd cd (carryN d b data m k) ∧ RowB wr gk ck data ∧ Upd (fun i => i = gd) w wr) (fun i _ => 8 - (intOf i).toNat)
  case atStart => exact ⟨0, Nat.zero_le _, rfl, x0, d0, k0, U0⟩
  case round =>
    obtain ⟨k, hk, rfl, x, hd, hkd, U⟩ := hrel
    clear x0 d0 k0 U0
    by_cases hlt : k < 8
    · have hlt2 : (k : Int) < 8 := by omega
      have hbi := bitI m k hm
      have hcl : (carryN d b data m k).length = L := by rw [carryN_length d b data m (by rw [HL.out, ← HO.out]; exact hb) Hdl.out k hk, HL.out]
      have hsucc : carryN d b data m (k + 1) = if bit m k then putAt (carryN d b data m k) (b * 4096 + k * 512) (sec data k) else carryN d b data m k := rfl
      have Hcl : Hid _ := hcl
      have Hsucc : Hid _ := hsucc
      clear hcl hsucc
      cases hbit : bit m k with
      | false =>
        rw [hbit] at hbi
        have Hs : Hid (carryN d b data m (k + 1) = carryN d b data m k) := by have := Hsucc.out; rw [hbit] at this; exact this
        clear Hsucc
        go_wp2_with fail
        go_roundw
        case rel => exact ⟨k + 1, by omega, by go_num, x, by rw [Hs.out]; exact hd, hkd, U⟩
        case measure => simp [intOf]; omega
      | true =>
        rw [hbit] at hbi
        have Hs : Hid (carryN d b data m (k + 1) = putAt (carryN d b data m k) (O + k * 512) (sec data k)) := by have := Hsucc.out; rw [hbit, ← HO.out] at this; exact this
        clear Hsucc
        have hsl := sec_length data k Hdl.out hlt
        have x1 := x.cell 1
        simp only [List.getElem?_toArray, List.getElem?_cons_zero, List.getElem?_cons_succ] at x1
        have dr : RowB wr.drew gd cd (carryN d b data m k) := hd
        have kr : RowB wr.drew gk ck data := hkd
        have rs : Rd wr.drew (some ⟨gk, k * 512, none⟩) (sec data k) := by have := kr.rd.part (k * 512) 512; rw [Nat.zero_add] at this; exact this
        obtain ⟨V, hcp, hV, hgV⟩ := copy_row gd cd (O + k * 512) 512 512 (some ⟨gk, k * 512, none⟩) 512 (sec data k) (carryN d b data m k) wr.drew dr rs (by omega) (by rw [Hcl.out, hsl]; omega) (by omega)
        rw [hsl] at hcp
        have U2 : Upd (fun i => i = gd) w V := (U.drew).grown hgV (fun q e => by cases e; exact .inl rfl)
        have xV : Box V G #[.int .i64 (b : Int), .slice (some ⟨gk, 0, none⟩) 4096 ck] 79 := (hgV.block G x.lt (by simpa using hGd)).trans x
        have kV : RowB V gk ck data := kr.same (hgV.block gk kr.lt (by simpa using hne))
        clear hsl hgV dr kr rs
        go_wp2_with fail
        refine wp_region_any (by kernel_rfl) ?_
        change wpAny _ _ _ _ _ _ _ (World.drew _)
        refine wpAny_take (i := 0) (v := ?_) rfl (by kernel_rfl) (by kernel_rfl) (by kernel_rfl) (fun _ _ _ h => h) (Or.inl ⟨by rfl, ?_⟩) ?_
        rotate_left
        · intro w
          go_simp
          with_reducible rfl
        refine wpAny_take (i := 1) (v := ?_) rfl (by kernel_rfl) (by kernel_rfl) (by kernel_rfl) (fun _ _ _ h => h) (Or.inl ⟨by rfl, ?_⟩) ?_
        rotate_left
        · intro w
          go_simp
          with_reducible rfl
        refine wpAny_take (i := 3) (v := ?_) rfl (by kernel_rfl) (by kernel_rfl) (by kernel_rfl) (fun _ _ _ h => h) (Or.inl ⟨by rfl, ?_⟩) ?_
        rotate_left
        · intro w
          go_simp
          with_reducible rfl
        refine wpAny_take (i := 5) (v := ?_) rfl (by kernel_rfl) (by kernel_rfl) (by kernel_rfl) (fun _ _ _ h => h) (Or.inl ⟨by rfl, ?_⟩) ?_
        rotate_left
        · intro w
          go_simp
          with_reducible rfl
        simp only [Act.put, List.setIfInBounds_toArray, List.set_cons_zero, List.set_cons_succ, List.getElem_toArray, List.getElem_cons_zero, List.getElem_cons_succ]
        refine wpAny_of_class (C := SlotsCells [(23, .pointer (some ⟨G, 1, none⟩))] [(⟨G, 1, none⟩, .slice (some ⟨gk, 0, none⟩) 4096 ck)]) _ _ _ _ ?_
        have hq : ∀ u : World, Box u G #[.int .i64 (b : Int), .slice (some ⟨gk, 0, none⟩) 4096 ck] 79 → ∀ q ∈ ([(⟨G, 1, none⟩, .slice (some ⟨gk, 0, none⟩) 4096 ck)] : List (Addr × Value)), u.cell? q.1 = some q.2 := by
          intro u hu q hq
          simp at hq
          subst hq
          exact hu.cell 1
        have xd : Box wr.drew G #[.int .i64 (b : Int), .slice (some ⟨gk, 0, none⟩) 4096 ck] 79 := x
        refine wpAnyC_take (i := 4) (v := .slice (some ⟨gk, 0, none⟩) 4096 ck) rfl (by kernel_rfl) (by kernel_rfl) (by kernel_rfl) (fun _ _ _ h => h) ?_ (fun fr u h => (SlotsCells.put 24 _ (by rfl)).1 h) (fun fr u h => (SlotsCells.put 24 _ (by rfl)).2 h) ?_ ?_
        · intro fr u hh
          obtain ⟨e1, e2⟩ := hh.load (s := 23) (p := ⟨G, 1, none⟩) (v := .slice (some ⟨gk, 0, none⟩) 4096 ck) (by simp) (by simp)
          exact ⟨rfl, by simp [execOp, e1, go_sem, e2]⟩
        · refine ⟨fun p hp => ?_, hq _ xd⟩
          simp at hp
          subst hp
          rfl
        simp only [Act.put, List.setIfInBounds_toArray, List.set_cons_zero, List.set_cons_succ, List.getElem_toArray, List.getElem_cons_zero, List.getElem_cons_succ]
        refine wpAnyC_one (i := 2) (by kernel_rfl) rfl (fun K hK => ?_)
        go_simp
        refine (part_i gd O 4096 4096 k 512 _ _ wr.drew rfl rfl (by omega) (by omega) (by omega)).mono ?_
        rintro e w' ⟨rfl, rfl⟩
        refine hK _ _ ⟨?_, ?_⟩
        · refine ⟨fun p hp => ?_, hq _ xd⟩
          simp at hp
          subst hp
          rfl
        clear hK K
        refine wpAnyC_one (i := 6) (by kernel_rfl) rfl (fun K hK => ?_)
        go_simp
        refine (part_i gk 0 4096 ck k 512 _ _ wr.drew rfl rfl (by omega) (by omega) (by omega)).mono ?_
        rintro e w' ⟨rfl, rfl⟩
        rw [Nat.zero_add]
        refine hK _ _ ⟨?_, ?_⟩
        · refine ⟨fun p hp => ?_, hq _ xd⟩
          simp at hp
          subst hp
          rfl
        clear hK K
        refine wpAnyC_one (i := 7) (by kernel_rfl) rfl (fun K hK => ?_)
        go_simp
        refine hK _ _ ⟨?_, ?_⟩
        · refine ⟨fun p hp => ?_, hq _ xV⟩
          simp at hp
          subst hp
          rfl
        clear hK K hcp
        refine wpAnyC_done (by kernel_rfl) ?_ _
        go_wp2_with fail
        go_roundw
        case rel => exact ⟨k + 1, by omega, by go_num, xV, by rw [Hs.out]; exact hV, kV, U2⟩
        case measure => simp [intOf]; omega
    · obtain rfl : k = 8 := by omega
      go_wp2
      go_end0
      exact ⟨rfl, hd, U⟩
end Go.Proofs.Ytagnmmapnpcijaa
