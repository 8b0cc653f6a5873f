/-
  Disks that are made: Clone, holding, New, Load.
-/
import Derived.Test.YtagnmmapnpcijaaSmall
namespace Go.Proofs.Ytagnmmapnpcijaa
open Go.RowKit

theorem eqlSlice (ad : Addr) (n cap : Nat) (u : World) : (binOp .eql 27 (.slice (some ad) n cap) (.slice none 0 0)).run Try.prog u = .ok (.bool false) u := by
  have h : ∀ d : Nat, (Op.equalIn (d + 1) 27 (.slice (some ad) n cap) (.slice none 0 0)).run Try.prog u = .ok false u := fun d => by
    simp [Op.equalIn, run_underlying Try.underlying27]
  simp only [binOp]
  simp [Op.equal, Op.maxDepth, h 9999]

theorem clone_at (cap n : Nat) (ad : Addr) (xs : List UInt8) (w : World) (hl : xs.length = n) (h0 : 0 < n) (hn : n ≤ 100000000) (hr : Rd w (some ad) xs) :
    Calls Try.prog 39 #[.slice (some ad) n cap] w fun e w' => ∃ g cap', e = .returned (.slice (some ⟨g, 0, none⟩) n cap') ∧ w.heap.size ≤ g ∧ RowB w' g cap' xs ∧ Below w.heap.size w w' := by
  obtain ⟨i0, hi, hz0, hz1, hz2⟩ := info_parts info5
  have hb0 : Below w.heap.size w (w.alloc (.cells #[] 5)) := (Below.refl _ _).alloc (Nat.le_refl _) _
  have hr1 := hr.below hb0 (Nat.le_refl _)
  have ho : (w.alloc (.cells #[] 5)).ownsRow w.heap.size 5 1 (.slice (some ⟨w.heap.size, 0, none⟩) 0 0) 0 [] := World.ownsRow_made w #[] 0 (Nat.le_refl _) (by simp [maxLen]) rfl
  have Hl : Hid _ := hl
  clear hl
  have z0 := hb0.size
  have he := eqlSlice ad n cap
  go_enter Try.func39, Try.ntmps39
  go_wp2_with (at_builtin; refine wpList_append_bytes rfl _ _ rfl w.heap.size (.slice (some ⟨w.heap.size, 0, none⟩) 0 0) 0 [] rfl ho (some ad) n cap xs rfl Hl.out hr1 (by simp) (by omega) z0 ?_)
  intro v1 w1 o1 g1
  obtain ⟨g, cap', rfl, hg, hrow⟩ := RowB.owns o1 h0
  have B1 : Below w.heap.size w w1 := hb0.grown g1 z0 (fun k hk => by simp [Value.ownBlock] at hk; omega)
  clear o1 g1 ho hr1 hb0
  go_wp2
  go_ret
  exact ⟨g, cap', rfl, hg, hrow, B1⟩

theorem holding_at (gd cd nb : Nat) (d : List UInt8) (w : World) (hrow : RowB w gd cd d) (hl : d.length = nb * 4096) (h1 : 1 ≤ nb) (h2 : nb ≤ 512) :
    Calls Try.prog 35 #[.slice (some ⟨gd, 0, none⟩) (nb * 4096) cd] w fun e w' => e = .returned (.pointer (some ⟨w.heap.size, 0, none⟩)) ∧ IsDisk w' w.heap.size (DS.new nb d) (fun i => i = w.heap.size ∨ i = gd) ∧ Below w.heap.size w w' := by
  have b1 := Box.new w (diskC w.heap.size (.slice (some ⟨gd, 0, none⟩) (nb * 4096) cd) (.slice none 0 0) (DS.new nb d)) 69
  have B1 := (Below.refl w.heap.size w).alloc (Nat.le_refl _) (.cells (diskC w.heap.size (.slice (some ⟨gd, 0, none⟩) (nb * 4096) cd) (.slice none 0 0) (DS.new nb d)) 69)
  have hlt := hrow.lt
  have hs := B1.size
  have hlies : Lies _ w.heap.size (DS.new nb d) (fun i => i = w.heap.size ∨ i = gd) gd cd (.slice none 0 0) [] :=
    { box := b1, dur := hrow.same (B1.block gd hlt), row := World.ownsRow_nil _ _ _ _, len := rfl, each := fun k h => by simp at h, fg := .inl rfl, fd := .inr rfl, fu := fun k h => by simp [Value.ownBlock] at h,
      flt := fun i hi => by
        rcases hi with rfl | rfl
        · exact b1.lt
        · omega
      ok := DS.Ok.new hl h1 h2 }
  clear b1 hrow hl
  go_enter Try.func35, Try.ntmps35
  go_wp2
  go_ret
  exact ⟨rfl, ⟨_, _, _, _, hlies⟩, B1⟩

theorem made_zeros (n : Nat) : (madeCells #[Value.int .u8 0] n) = (bcs (List.replicate n 0)).toArray := made_zero n

/-- noughts -/
def nought (n : Nat) : List UInt8 := List.replicate n 0
theorem nought_length (n : Nat) : (nought n).length = n := by simp [nought]

theorem make_run (n : Nat) (hn : n ≤ 281474976710656) (u : World) : (Instr.makeSlice 27 (.int .i64 (n : Int)) (.int .i64 (n : Int))).run Try.prog u =
    .ok (.slice (some ⟨u.heap.size, 0, none⟩) n n) (u.alloc (.cells (bcs (nought n)).toArray 5)) := by
  obtain ⟨i0, hi, hz0, hz1, hz2⟩ := info_parts info5
  have h := run_make (P := Try.prog) u 27 5 i0 (.int .u8 0) Try.underlying27 hi hz0 .i64 .i64 (n : Int) (n : Int) (by omega) (Int.le_refl _) (by rw [hz2]; omega) (by omega)
  have e : ((n : Int)).toNat = n := by omega
  rw [e, hz1, Nat.mul_one] at h
  have e2 : madeCells #[.int .u8 0] n = (bcs (nought n)).toArray := made_zero n
  rw [← e2]
  exact h

/-- a disk in new blocks -/
def NewDisk (w w' : World) (g : Nat) (D : DS) : Prop := ∃ F : Nat → Prop, IsDisk w' g D F ∧ (∀ i, F i → w.heap.size ≤ i) ∧ Below w.heap.size w w'

theorem new_at (nb : Nat) (w : World) (h1 : 1 ≤ nb) (h2 : nb ≤ 512) :
    Calls Try.prog 9 #[.int .i64 (nb : Int)] w fun e w' => ∃ g, e = .returned (.tuple #[.pointer (some ⟨g, 0, none⟩), .int .i64 0]) ∧ NewDisk w w' g (DS.new nb (nought (nb * 4096))) := by
  have c := rightSize_at nb w
  have hc : (decide ((1 : Int) ≤ (nb : Int)) && decide ((nb : Int) ≤ 512)) = true := by simp; omega
  rw [hc] at c
  have hm := make_run (nb * 4096) (by omega)
  have em : ((nb * 4096 : Nat) : Int) = (nb : Int) * 4096 := by omega
  rw [em] at hm
  clear em
  have own := own_lit w (nought (nb * 4096))
  have B1 := (Below.refl w.heap.size w).alloc (Nat.le_refl _) (.cells (bcs (nought (nb * 4096))).toArray 5)
  have rw0 := RowB.own own (by rw [nought_length]; unfold maxLen; omega)
  rw [nought_length] at rw0
  have hlen : (nought (nb * 4096)).length = nb * 4096 := nought_length _
  generalize nought (nb * 4096) = Z at hm own B1 rw0 hlen ⊢
  obtain ⟨U, hU⟩ : ∃ U, U = w.alloc (.cells (bcs Z).toArray 5) := ⟨_, rfl⟩
  rw [← hU] at B1 rw0
  have ch := holding_at w.heap.size (nb * 4096) nb Z U rw0 hlen h1 h2
  have HU : Hid _ := hU
  clear own hU hlen hc
  go_enter Try.func9, Try.ntmps9
  go_wp2_with fail
  refine c.mono ?_
  rintro e w' ⟨rfl, rfl⟩
  go_wp2_with fail
  rw [← HU.out]
  refine ch.mono ?_
  rintro e w2 ⟨rfl, hd, b2⟩
  have B2 := B1.trans (b2.mono B1.size)
  have z1 := B1.size
  clear hm ch
  go_wp2
  go_ret2
  exact ⟨_, rfl, _, hd, fun i hi => by rcases hi with rfl | rfl; exact z1; exact Nat.le_refl _, B2⟩

theorem new_bad (n : Int) (w : World) (h : n < 1 ∨ 512 < n) :
    Calls Try.prog 9 #[.int .i64 n] w fun e w' => e = .returned (.tuple #[.pointer none, .int .i64 2]) ∧ w = w' := by
  have c := rightSize_at n w
  have hc : (decide ((1 : Int) ≤ n) && decide (n ≤ 512)) = false := by simp; omega
  rw [hc] at c
  clear hc h
  go_enter Try.func9, Try.ntmps9
  go_wp2_with fail
  refine c.mono ?_
  rintro e w' ⟨rfl, rfl⟩
  go_wp2
  go_ret2
  exact ⟨rfl, rfl⟩

theorem load_at (nb cap : Nat) (ad : Addr) (xs : List UInt8) (w : World) (h1 : 1 ≤ nb) (h2 : nb ≤ 512) (hl : xs.length = nb * 4096) (hr : Rd w (some ad) xs) :
    Calls Try.prog 21 #[.slice (some ad) (nb * 4096) cap] w fun e w' => ∃ g, e = .returned (.tuple #[.pointer (some ⟨g, 0, none⟩), .int .i64 0]) ∧ NewDisk w w' g (DS.new nb xs) := by
  have c := rightSize_at nb w
  have hc : (decide ((1 : Int) ≤ (nb : Int)) && decide ((nb : Int) ≤ 512)) = true := by simp; omega
  rw [hc] at c
  have ck := clone_at cap (nb * 4096) ad xs w hl (by omega) (by omega) hr
  have Hl : Hid _ := hl
  have e1 : ((nb : Int) * 4096) % 4096 = 0 := by omega
  have e2 : ((nb : Int) * 4096) / 4096 = nb := by omega
  clear hl hc
  go_enter Try.func21, Try.ntmps21
  go_wp2_with fail
  refine c.mono ?_
  rintro e w' ⟨rfl, rfl⟩
  go_wp2_with fail
  refine ck.mono ?_
  rintro e w1 ⟨gd, cd, rfl, hgd, hrow, b1⟩
  go_wp2_with fail
  refine (holding_at gd cd nb xs w1 hrow Hl.out h1 h2).mono ?_
  rintro e w2 ⟨rfl, hd, b2⟩
  have B2 := b1.trans (b2.mono b1.size)
  have z1 := b1.size
  clear ck
  go_wp2
  go_ret2
  exact ⟨_, rfl, _, hd, fun i hi => by rcases hi with rfl | rfl; exact z1; exact hgd, B2⟩

theorem load_bad (n cap : Nat) (a : Option Addr) (w : World) (hn : n ≤ 9223372036854775807) (h : n % 4096 ≠ 0 ∨ n = 0 ∨ 512 * 4096 < n) :
    Calls Try.prog 21 #[.slice a n cap] w fun e w' => e = .returned (.tuple #[.pointer none, .int .i64 2]) ∧ w = w' := by
  by_cases h0 : n % 4096 = 0
  · obtain ⟨nb, rfl⟩ : ∃ nb, n = nb * 4096 := ⟨n / 4096, by omega⟩
    have c := rightSize_at nb w
    have hc : (decide ((1 : Int) ≤ (nb : Int)) && decide ((nb : Int) ≤ 512)) = false := by simp; omega
    rw [hc] at c
    have e1 : ((nb : Int) * 4096) % 4096 = 0 := by omega
    have e2 : ((nb : Int) * 4096) / 4096 = nb := by omega
    clear hc h h0
    go_enter Try.func21, Try.ntmps21
    go_wp2_with fail
    refine c.mono ?_
    rintro e w' ⟨rfl, rfl⟩
    go_wp2
    go_ret2
    exact ⟨rfl, rfl⟩
  · have e1 : (((n : Int) % 4096) != 0) = true := by simp; omega
    clear h h0
    go_enter Try.func21, Try.ntmps21
    go_wp2
    go_ret2
    exact ⟨rfl, rfl⟩
end Go.Proofs.Ytagnmmapnpcijaa
