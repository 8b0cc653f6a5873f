/-
  The walk of DiskLoads: what is loaded stays as it was, whatever becomes of the bytes that were handed in.
-/
import Derived.Test.YtagnmmapnpcijaaAwake
namespace Go.Proofs.Ytagnmmapnpcijaa
open Go.RowKit

/-- n octets, whichever -/
def Octs (w : World) (g n : Nat) : Prop := ∃ cur : Array Value, Box w g cur 5 ∧ ∀ j, j < n → ∃ z : Int, cur[j]? = some (.int .u8 z)
theorem RowB.octs {w : World} {g cap : Nat} {ys : List UInt8} (h : RowB w g cap ys) (n : Nat) (hn : ys.length = n) : Octs w g n := by
  obtain ⟨cur, hb, h1, h2, h3, ht⟩ := h
  refine ⟨cur, hb, fun j hj => ?_⟩
  have hj' : j < ys.length := by omega
  have e := bcs_getElem? ys j hj'
  rw [← ht, List.getElem?_take, if_pos hj'] at e
  exact ⟨_, by simpa using e⟩
theorem Octs.cell {w : World} {g n : Nat} (h : Octs w g n) (j : Nat) (hj : j < n) : ∃ z : Int, w.cell? ⟨g, j, none⟩ = some (.int .u8 z) := by
  obtain ⟨cur, hb, hc⟩ := h
  obtain ⟨z, hz⟩ := hc j hj
  exact ⟨z, by rw [hb.cell j, hz]⟩
theorem Octs.frozen {w : World} {g n : Nat} (h : Octs w g n) (j : Nat) : w.frozen? ⟨g, j, none⟩ = false := by
  obtain ⟨cur, hb, _⟩ := h
  exact hb.frozen j
theorem Octs.store {w : World} {g n : Nat} (h : Octs w g n) (j : Nat) (z : Int) : Octs (w.setCell ⟨g, j, none⟩ (.int .u8 z)) g n := by
  obtain ⟨cur, hb, hc⟩ := h
  refine ⟨_, hb.store j _, fun i hi => ?_⟩
  obtain ⟨y, hy⟩ := hc i hi
  by_cases e : j = i
  · subst e
    have hlt := (Array.getElem?_eq_some_iff.1 hy).1
    exact ⟨z, by rw [Array.getElem?_setIfInBounds, if_pos rfl, if_pos hlt]⟩
  · exact ⟨y, by rw [Array.getElem?_setIfInBounds, if_neg e]; exact hy⟩
theorem Octs.below {w w' : World} {g n : Nat} (h : Octs w g n) (hb : Below w.heap.size w w') : Octs w' g n := by
  obtain ⟨cur, hx, hc⟩ := h
  exact ⟨cur, hx.below hb, hc⟩

theorem owns_nil {w : World} {B : Nat} {v : Value} (h : w.ownsRow B 5 1 v 0 (bcs [])) : ∃ a cap, v = .slice a 0 cap ∧ cap ≤ 9223372036854775807 := by
  rcases h.2 with ⟨rfl, _⟩ | ⟨g, cap, cur, rfl, _, _, _, hcm, _, _⟩
  · exact ⟨none, 0, rfl, by omega⟩
  · exact ⟨some ⟨g, 0, none⟩, cap, rfl, hcm⟩

theorem loads_long (a : Option Addr) (n cap : Nat) (w : World) (h : 40000 < n) (hn : n ≤ 9223372036854775807) :
    Calls Try.prog 5 #[.slice a n cap] w fun e w' => e = .returned (.bool true) ∧ Below w.heap.size w w' := by
  go_enter Try.func5, Try.ntmps5
  go_wp2_with fail
  refine (awake_any _).mono ?_
  rintro r w1 ⟨rfl, b1⟩
  go_wp2
  go_ret
  exact ⟨rfl, b1⟩

set_option maxRecDepth 100000 in
set_option maxHeartbeats 2000000 in
theorem loads_nil (a : Option Addr) (cap : Nat) (w : World) (hnil : a = none → cap = 0) :
    Calls Try.prog 5 #[.slice a 0 cap] w fun e w' => e = .returned (.bool true) ∧ Below w.heap.size w w' := by
  have c := copyBytes_at cap 0 a [] w rfl (by omega) (Rd.nil _ _) hnil
  go_enter Try.func5, Try.ntmps5
  go_wp2_with fail
  refine c.mono ?_
  rintro e w1 ⟨v, rfl, o, B1⟩
  obtain ⟨a1, c1, rfl, hx1⟩ := owns_nil o
  clear c o
  go_wp2_with fail
  refine (load_bad 0 c1 a1 w1 (by omega) (.inr (.inl rfl))).mono ?_
  rintro e w' ⟨rfl, rfl⟩
  go_wp2_with fail
  refine wp_loop_rounds 1 ?_
  rw [rounds_succ]
  go_wp2_with fail
  refine (awake_any _).mono ?_
  rintro r w2 ⟨rfl, b2⟩
  have B2 := B1.trans (b2.mono B1.size)
  go_wp2
  go_ret
  exact ⟨rfl, B2⟩

set_option maxRecDepth 100000 in
set_option maxHeartbeats 2000000 in
theorem loads_odd (a : Option Addr) (n cap : Nat) (xs : List UInt8) (w : World) (hl : xs.length = n) (hr : Rd w a xs) (hnil : a = none → cap = 0) (hn : n ≤ 40000) (h0 : 0 < n) (hodd : n % 4096 ≠ 0) :
    Calls Try.prog 5 #[.slice a n cap] w fun e w' => e = .returned (.bool true) ∧ Below w.heap.size w w' := by
  have c := copyBytes_at cap n a xs w hl (by omega) hr hnil
  have e0 : ((n : Int) == 0) = false := by simp; omega
  have e1 : (((n : Int) % 4096) != 0) = true := by simp; omega
  have hn4 : ¬ (40000 < (n : Int)) := by omega
  go_enter Try.func5, Try.ntmps5
  go_wp2_with fail
  refine c.mono ?_
  rintro e w1 ⟨v, rfl, o, B1⟩
  obtain ⟨gi, ci, rfl, hgi, row⟩ := RowB.owns o h0
  have oc := row.octs n hl
  clear c o row hl
  go_wp2_with fail
  refine (load_bad n ci _ w1 (by omega) (.inl hodd)).mono ?_
  rintro e w' ⟨rfl, rfl⟩
  go_wp2_with fail
  go_loopw [6] (fun i wr => ∃ k : Nat, k ≤ n ∧ i = .int .i64 k ∧ Octs wr gi n ∧ Below w.heap.size w wr) (fun i _ => n - (intOf i).toNat)
  case atStart => exact ⟨0, Nat.zero_le _, rfl, oc, B1⟩
  case round =>
    obtain ⟨k, hk, rfl, o, B⟩ := hrel
    clear oc B1
    by_cases hlt : k < n
    · have hlt2 : (k : Int) < (n : Int) := by omega
      obtain ⟨z, c0⟩ := o.cell k hlt
      have f0 := o.frozen k
      have o1 := o.store k (bits .xor .u8 z 1)
      have B1 := B.setCell (p := ⟨gi, k, none⟩) hgi (.int .u8 (bits .xor .u8 z 1))
      go_wp2
      go_roundw
      case rel => exact ⟨k + 1, by omega, by go_num, o1, B1⟩
      case measure => simp [intOf]; omega
    · have hkn : k = n := by omega
      subst k
      have hr1 := hr.below B (Nat.le_refl _)
      clear hr hr1 hodd
      go_wp2_with fail
      refine (awake_any _).mono ?_
      rintro r w2 ⟨rfl, b2⟩
      have B2 := B.trans (b2.mono B.size)
      go_wp2
      go_ret
      exact ⟨rfl, B2⟩

theorem new_image (nb : Nat) (xs : List UInt8) : (DS.new nb xs).image = xs := rfl
theorem crash_image (nb : Nat) (xs : List UInt8) : ((DS.new nb xs).crash [] (-1) 0).image = xs := rfl
theorem crash_nb (D : DS) (ks : List Bool) (t : Int) (m : Nat) : (D.crash ks t m).nb = D.nb := rfl

set_option maxRecDepth 100000 in
set_option maxHeartbeats 2000000 in
theorem loads_even (a : Option Addr) (nb n cap : Nat) (xs : List UInt8) (w : World) (hl : xs.length = n) (hr : Rd w a xs) (hnil : a = none → cap = 0) (h1 : 1 ≤ nb) (h9 : nb ≤ 9) (hn : n = nb * 4096) :
    Calls Try.prog 5 #[.slice a n cap] w fun e w' => e = .returned (.bool true) ∧ Below w.heap.size w w' := by
  have c := copyBytes_at cap n a xs w hl (by omega) hr hnil
  have e0 : ((n : Int) == 0) = false := by simp; omega
  have e1 : (((n : Int) % 4096) != 0) = false := by simp; omega
  have e2 : (n : Int) / 4096 = (nb : Int) := by omega
  have hn4 : ¬ (40000 < (n : Int)) := by omega
  have n4 : n ≤ 36864 := by omega
  have n0 : 0 < n := by omega
  have Hn : Hid _ := hn
  have Hl : Hid _ := hl
  clear hn
  go_enter Try.func5, Try.ntmps5
  go_wp2_with fail
  refine c.mono ?_
  rintro e w1 ⟨v, rfl, o, B1⟩
  obtain ⟨gi, ci, rfl, hgi, row⟩ := RowB.owns o n0
  have oc := row.octs n hl
  have gl := row.lt
  have rr := row.rd
  have cl : Calls Try.prog 21 #[.slice (some ⟨gi, 0, none⟩) n ci] w1 fun e w' => ∃ g, e = .returned (.tuple #[.pointer (some ⟨g, 0, none⟩), .int .i64 0]) ∧ NewDisk w1 w' g (DS.new nb xs) := by
    rw [Hn.out]
    exact load_at nb ci _ xs w1 h1 (by omega) (Hl.out.trans Hn.out) rr
  clear c o row hl rr
  go_wp2_with fail
  refine cl.mono ?_
  rintro e w2 ⟨g, rfl, F, hd, hF, b2⟩
  have oc2 := oc.below b2
  have B2 := B1.trans (b2.mono B1.size)
  have hFi : ∀ i, F i → w.heap.size ≤ i := fun i hi => Nat.le_trans B1.size (hF i hi)
  have hne : ∀ i, F i → ¬ i = gi := fun i hi e => by have := hF i hi; omega
  clear cl oc B1 b2
  go_wp2_with fail
  go_loopw [6] (fun i wr => ∃ k : Nat, k ≤ n ∧ i = .int .i64 k ∧ Octs wr gi n ∧ Below w.heap.size w wr ∧ IsDisk wr g (DS.new nb xs) F) (fun i _ => n - (intOf i).toNat)
  case atStart => exact ⟨0, Nat.zero_le _, rfl, oc2, B2, hd⟩
  case round =>
    obtain ⟨k, hk, rfl, o, B, d⟩ := hrel
    clear oc2 B2 hd
    by_cases hlt : k < n
    · have hlt2 : (k : Int) < (n : Int) := by omega
      obtain ⟨z, c0⟩ := o.cell k hlt
      have f0 := o.frozen k
      have o1 := o.store k (bits .xor .u8 z 1)
      have B1 := B.setCell (p := ⟨gi, k, none⟩) hgi (.int .u8 (bits .xor .u8 z 1))
      have d1 := d.upd ((Upd.refl (fun i => i = gi) _).setCell (g := gi) (j := k) (.inl rfl) (.int .u8 (bits .xor .u8 z 1))) hne
      go_wp2
      go_roundw
      case rel => exact ⟨k + 1, by omega, by go_num, o1, B1, d1⟩
      case measure => simp [intOf]; omega
    · have hkn : k = n := by omega
      subst k
      have hr1 := hr.below B (Nat.le_refl _)
      have cs := size_of d
      have ci1 := image_at d
      rw [new_image] at ci1
      clear o
      go_wp2_with fail
      refine cs.mono ?_
      rintro e w' ⟨rfl, rfl⟩
      have e3 : (DS.new nb xs).nb = nb := rfl
      rw [e3] at ci1 ⊢
      rw [← Hn.out] at ci1
      clear cs e3
      go_wp2_with fail
      refine ci1.mono ?_
      rintro e w3 ⟨g3, c3, rfl, hg3, r3, b3⟩
      clear ci1
      go_wp2_with fail
      refine (same_at _ _ n n _ a xs xs w3 Hl.out Hl.out r3.rd (hr1.below b3 (Nat.le_refl _))).mono ?_
      rintro e w' ⟨rfl, rfl⟩
      have d3 := d.below b3
      have B3 := B.trans (b3.mono B.size)
      have hr3 := hr1.below b3 (Nat.le_refl _)
      clear r3 hr1
      rw [beq_self_eq_true]
      have cc := crash_at d3 none 0 0 [] (-1) 0 (by omega) rfl (by omega) (RdBl.nil _ _) (fun ad h => by cases h)
      clear d
      go_wp2_with fail
      refine cc.mono ?_
      rintro e w4 ⟨rfl, d4, u4⟩
      have B4 := B3.trans (u4.below hFi B3.size)
      have hr4 := hr.below B4 (Nat.le_refl _)
      have ci2 := image_at d4
      rw [crash_image, crash_nb] at ci2
      have e3 : (DS.new nb xs).nb = nb := rfl
      rw [e3, ← Hn.out] at ci2
      clear cc d3 e3 hr3
      go_wp2_with fail
      refine ci2.mono ?_
      rintro e w5 ⟨g5, c5, rfl, hg5, r5, b5⟩
      clear ci2
      have B5 := B4.trans (b5.mono B4.size)
      go_wp2_with fail
      refine (same_at _ _ n n _ a xs xs w5 Hl.out Hl.out r5.rd (hr4.below b5 (Nat.le_refl _))).mono ?_
      rintro e w' ⟨rfl, rfl⟩
      rw [beq_self_eq_true]
      clear r5 hr4 d4
      go_wp2_with fail
      refine (awake_any _).mono ?_
      rintro r w6 ⟨rfl, b6⟩
      have B6 := B5.trans (b6.mono B5.size)
      go_wp2
      go_ret
      exact ⟨rfl, B6⟩

theorem loads_any (a : Option Addr) (n cap : Nat) (xs : List UInt8) (w : World) (hl : xs.length = n) (hr : Rd w a xs) (hc : n ≤ cap) (hm : cap ≤ 9223372036854775807) (hnil : a = none → cap = 0) :
    Calls Try.prog 5 #[.slice a n cap] w fun e w' => e = .returned (.bool true) ∧ Below w.heap.size w w' := by
  by_cases h4 : 40000 < n
  · exact loads_long a n cap w h4 (by omega)
  by_cases h0 : n = 0
  · subst h0; exact loads_nil a cap w hnil
  by_cases hz : n % 4096 = 0
  · exact loads_even a (n / 4096) n cap xs w hl hr hnil (by omega) (by omega) (by omega)
  · exact loads_odd a n cap xs w hl hr hnil (by omega) (by omega) hz
end Go.Proofs.Ytagnmmapnpcijaa
