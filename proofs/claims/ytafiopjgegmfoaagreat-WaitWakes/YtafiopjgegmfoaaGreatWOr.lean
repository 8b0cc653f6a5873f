/-
  OrElse.
-/
import Derived.Test.YtafiopjgegmfoaaGreatWPark
namespace Go.Proofs.YtafiopjgegmfoaaGreat.W
open Go.RowKit Go.Maps Go.Proofs.YtafiopjgegmfoaaGreat Go.Proofs.YtafiopjgegmfoaaGreat.C Go.Proofs.YtafiopjgegmfoaaGreat.T
section
variable {u u' : World} {B wb g m tb : Nat} {P : Wts} {H : Nat → Prop} {X : TX} {F : Nat → Prop} {S : M}
theorem enter37 : ∀ args w, (callFunc 37 args).run Tryz.prog w = .ok (.enter 37 args) w := enters_of Tryz.func37 (by kernel_rfl) rfl
theorem clo37_at {f : Nat} {caps : Array Value} {Q : Ending → World → Prop} (bt : Box u tb #[ptr g] 35) (c : Calls Tryz.prog 38 #[ptr g, .func (.func f) #[] caps] u fun r u' => ∃ e : Int, r = .returned (.int .i64 e) ∧ Q r u') :
    Calls Tryz.prog 37 #[.func (.func f) #[] caps, ptr tb] u fun r u' => ∃ e : Int, r = .returned (.int .i64 e) ∧ Q r u' := by
  have c0 : u.cell? ⟨tb, 0, none⟩ = some (ptr g) := bt.cell 0
  have HQ : Hid (∀ r w, Q r w → Q r w) := fun _ _ h => h
  clear bt
  unfold ptr at *
  go_enter Tryz.func37, Tryz.ntmps37
  go_wp2_with (go_at_call 38; refine c.mono ?_; rintro r w' ⟨e, rfl, k⟩; have K : Hid (Q (.returned (.int .i64 e)) w') := k; clear k)
  go_ret
  exact ⟨e, rfl, K.out⟩
set_option maxRecDepth 20000 in
set_option maxHeartbeats 1000000 in
theorem orElse_at {f1 f2 : Nat} {caps1 caps2 : Array Value} {A : Int → World → Prop} {Q : Ending → World → Prop} (hx : IsX u B g m X F)
    (c1 : Calls Tryz.prog 38 #[ptr g, .func (.func f1) #[] caps1] (u.alloc (.cells #[ptr g] 35)) fun r u' => ∃ e : Int, r = .returned (.int .i64 e) ∧ Box u' u.heap.size #[ptr g] 35 ∧ A e u')
    (c2 : ∀ e u', A e u' → ∃ st : Int, (Calls Tryz.prog 39 #[ptr g] u' fun r u'' => r = .returned (.int .u8 st) ∧ u'' = u') ∧ (e = 135 → st = 1 → Calls Tryz.prog 38 #[ptr g, .func (.func f2) #[] caps2] u' fun r u'' => ∃ e' : Int, r = .returned (.int .i64 e') ∧ Q r u'') ∧ (¬ (e = 135 ∧ st = 1) → Q (.returned (.int .i64 e)) u')) :
    Calls Tryz.prog 15 #[ptr g, .func (.func f1) #[] caps1, .func (.func f2) #[] caps2] u fun r u' => ∃ e : Int, r = .returned (.int .i64 e) ∧ Q r u' := by
  have hmf : ∀ (fn : Fn) (first cap : Array Value) (w : World), (Instr.makeFunc fn first cap).run Tryz.prog w = .ok (.func fn first cap) w := fun _ _ _ _ => rfl
  have h37 := enter37
  have hn1 := neNil f1 caps1
  have hn2 := neNil f2 caps2
  obtain ⟨u1, hu1⟩ : ∃ u1, u1 = u.alloc (.cells #[ptr g] 35) := ⟨_, rfl⟩
  rw [← hu1] at c1
  have bb : Below u.heap.size u u1 := by rw [hu1]; exact (Below.refl _ _).alloc (Nat.le_refl _) _
  have bt : Box u1 u.heap.size #[ptr g] 35 := by rw [hu1]; exact Box.new u _ 35
  have cb := isBegun_at (hx.below bb)
  have ct : u1.cell? ⟨u.heap.size, 0, none⟩ = some (ptr g) := bt.cell 0
  have cc := clo37_at (Q := fun r u' => ∃ e : Int, r = .returned (.int .i64 e) ∧ Box u' u.heap.size #[ptr g] 35 ∧ A e u') bt (c1.mono fun r u' ⟨e, a, b⟩ => ⟨e, a, e, a, b⟩)
  have C2 : Hid (∀ e u', A e u' → ∃ st : Int, (Calls Tryz.prog 39 #[ptr g] u' fun r u'' => r = .returned (.int .u8 st) ∧ u'' = u') ∧ (e = 135 → st = 1 → Calls Tryz.prog 38 #[ptr g, .func (.func f2) #[] caps2] u' fun r u'' => ∃ e' : Int, r = .returned (.int .i64 e') ∧ Q r u'') ∧ (¬ (e = 135 ∧ st = 1) → Q (.returned (.int .i64 e)) u')) := c2
  clear hx c1 c2 bt bb
  unfold ptr at *
  go_enter Tryz.func15, Tryz.ntmps15
  go_upto_region 1 with fail
  rw [← hu1]
  clear hu1
  go_wp2_with (go_at_call 30; refine cb.mono ?_; rintro r w' ⟨rfl, hw'⟩; subst w')
  refine cc.mono ?_
  rintro r u2 ⟨e, rfl, e', he, bt, ha⟩
  obtain rfl : e = e' := by injection he with he; injection he
  have ct2 : u2.cell? ⟨u.heap.size, 0, none⟩ = some (.pointer (some ⟨g, 0, none⟩)) := bt.cell 0
  obtain ⟨st, cs, hy, hn⟩ := C2.out e u2 ha
  have HY : Hid (e = 135 → st = 1 → Calls Tryz.prog 38 #[.pointer (some ⟨g, 0, none⟩), .func (.func f2) #[] caps2] u2 fun r u'' => ∃ e' : Int, r = .returned (.int .i64 e') ∧ Q r u'') := hy
  have HN : Hid (¬ (e = 135 ∧ st = 1) → Q (.returned (.int .i64 e)) u2) := hn
  have HBT : Hid (Box u2 u.heap.size #[.pointer (some ⟨g, 0, none⟩)] 35) := bt
  clear cc cb C2 ha he hy hn bt ct
  by_cases h1 : e = 135
  · subst h1
    by_cases h2 : st = 1
    · subst h2
      have c3 := clo37_at HBT.out (HY.out rfl rfl)
      unfold ptr at c3
      clear HY HN HBT
      go_wp2_with (go_at_call 39; refine cs.mono ?_; rintro r w' ⟨rfl, hw'⟩; subst w')
      refine c3.mono ?_
      rintro r u3 ⟨e', rfl, hq⟩
      have HQ : Hid (Q (.returned (.int .i64 e')) u3) := hq
      clear hq c3
      go_wp2_with fail
      go_ret
      exact ⟨e', rfl, HQ.out⟩
    · have h2' : (st == 1) = false := by simpa using h2
      have HQ : Hid (Q (.returned (.int .i64 135)) u2) := HN.out (fun h => h2 h.2)
      clear HY HN HBT
      go_wp2_with (go_at_call 39; refine cs.mono ?_; rintro r w' ⟨rfl, hw'⟩; subst w')
      go_ret
      exact ⟨135, rfl, HQ.out⟩
  · have h1' : (e == 135) = false := by simpa using h1
    have HQ : Hid (Q (.returned (.int .i64 e)) u2) := HN.out (fun h => h1 h.1)
    clear HY HN HBT cs
    go_wp2_with fail
    go_ret
    exact ⟨e, rfl, HQ.out⟩
theorem orElse_nil (f1 f2 : Nat) (caps1 caps2 : Array Value) (u : World) : Calls Tryz.prog 15 #[.pointer none, .func (.func f1) #[] caps1, .func (.func f2) #[] caps2] u fun r u' => r = .returned (.int .i64 1) ∧ Below u.heap.size u u' := by
  have cb := isBegun_no (noT_nil (u.alloc (.cells #[.pointer none] 35)))
  have HB : Hid (Below u.heap.size u (u.alloc (.cells #[.pointer none] 35))) := (Below.refl _ _).alloc (Nat.le_refl _) _
  go_enter Tryz.func15, Tryz.ntmps15
  go_wp2_with (go_at_call 30; refine cb.mono ?_; rintro r w' ⟨rfl, hw'⟩; subst w')
  go_ret
  exact ⟨rfl, HB.out⟩
theorem orElse_one (hx : IsX u B g m X F) (f2 : Value) : Calls Tryz.prog 15 #[ptr g, .nilFunc, f2] u fun r u' => r = .returned (.int .i64 1) ∧ Below u.heap.size u u' := by
  have hne := eqNil
  have HB : Hid (Below u.heap.size u (u.alloc (.cells #[ptr g] 35))) := (Below.refl _ _).alloc (Nat.le_refl _) _
  have cb := isBegun_at (hx.below HB.out)
  clear hx
  unfold ptr at *
  go_enter Tryz.func15, Tryz.ntmps15
  go_wp2_with (go_at_call 30; refine cb.mono ?_; rintro r w' ⟨rfl, hw'⟩; subst w')
  go_ret
  exact ⟨rfl, HB.out⟩
theorem orElse_two (hx : IsX u B g m X F) (f1 : Nat) (caps1 : Array Value) : Calls Tryz.prog 15 #[ptr g, .func (.func f1) #[] caps1, .nilFunc] u fun r u' => r = .returned (.int .i64 1) ∧ Below u.heap.size u u' := by
  have hne := eqNil
  have hn1 := neNil f1 caps1
  have HB : Hid (Below u.heap.size u (u.alloc (.cells #[ptr g] 35))) := (Below.refl _ _).alloc (Nat.le_refl _) _
  have cb := isBegun_at (hx.below HB.out)
  clear hx
  unfold ptr at *
  go_enter Tryz.func15, Tryz.ntmps15
  go_wp2_with (go_at_call 30; refine cb.mono ?_; rintro r w' ⟨rfl, hw'⟩; subst w')
  go_ret
  exact ⟨rfl, HB.out⟩
/-! ### no watch, no transaction -/
variable {p : Option Addr}
theorem park_none (h : NoW u p) (k : Value) (t : Value) : Calls Tryz.prog 11 #[.pointer p, k, t] u fun r u' => r = .returned (.int .i64 1) ∧ u' = u := by
  go_enter Tryz.func11, Tryz.ntmps11
  go_wp2_with (go_at_call 10; refine Calls.mono h ?_; rintro r w' ⟨rfl, hw'⟩; subst w')
  go_ret
  exact ⟨rfl, rfl⟩
theorem park_noT (h : IsW u B wb m P H) (k : Value) : Calls Tryz.prog 11 #[ptr wb, k, .pointer none] u fun r u' => r = .returned (.int .i64 1) ∧ u' = u := by
  obtain ⟨mb, bx, _, _⟩ := h.box
  have c := made_at bx
  have c2 := isBegun_no (noT_nil u)
  clear h bx
  unfold ptr at *
  go_enter Tryz.func11, Tryz.ntmps11
  go_wp2_with (first | (go_at_call 10; refine Calls.mono c ?_; rintro r w' ⟨rfl, hw'⟩; subst w') | (go_at_call 30; refine Calls.mono c2 ?_; rintro r w' ⟨rfl, hw'⟩; subst w'))
  go_ret
  exact ⟨rfl, rfl⟩
theorem forget_none (h : NoW u p) (k : Value) : Calls Tryz.prog 12 #[.pointer p, k] u fun r u' => r = .returned (.bool false) ∧ u' = u := by
  have c : Calls Tryz.prog 31 #[.pointer p, k] u fun r u' => r = .returned (.bool false) ∧ u' = u := by
    go_enter Tryz.func31, Tryz.ntmps31
    go_wp2_with (go_at_call 10; refine Calls.mono h ?_; rintro r w' ⟨rfl, hw'⟩; subst w')
    go_ret
    exact ⟨rfl, rfl⟩
  clear h
  go_enter Tryz.func12, Tryz.ntmps12
  go_wp2_with (go_at_call 31; refine c.mono ?_; rintro r w' ⟨rfl, hw'⟩; subst w')
  go_ret
  exact ⟨rfl, rfl⟩
theorem gather_none (h : NoW u p) (f : Value) : Calls Tryz.prog 33 #[.pointer p, f] u fun r u' => r = .returned (.slice none 0 0) ∧ u' = u := by
  go_enter Tryz.func33, Tryz.ntmps33
  go_wp2_with (go_at_call 10; refine Calls.mono h ?_; rintro r w' ⟨rfl, hw'⟩; subst w')
  go_ret
  exact ⟨rfl, rfl⟩
theorem parked_none (h : NoW u p) : Calls Tryz.prog 14 #[.pointer p] u fun r u' => r = .returned (.slice none 0 0) ∧ u' = u := by
  have c := gather_none h
  clear h
  go_enter Tryz.func14, Tryz.ntmps14
  go_wp2_with (go_at_call 33; refine (c _).mono ?_; rintro r w' ⟨rfl, hw'⟩; subst w')
  go_ret
  exact ⟨rfl, rfl⟩
theorem changed_none (u : World) : Calls Tryz.prog 13 #[.pointer none] u fun r u' => r = .returned (.slice none 0 0) ∧ Below u.heap.size u u' := by
  have hmf : ∀ (fn : Fn) (first cap : Array Value) (w : World), (Instr.makeFunc fn first cap).run Tryz.prog w = .ok (.func fn first cap) w := fun _ _ _ _ => rfl
  have c := gather_none (noW_nil (u.alloc (.cells #[.pointer none] 22)))
  have HB : Hid (Below u.heap.size u (u.alloc (.cells #[.pointer none] 22))) := (Below.refl _ _).alloc (Nat.le_refl _) _
  go_enter Tryz.func13, Tryz.ntmps13
  go_wp2_with fail
  refine (c _).mono ?_
  rintro r w' ⟨rfl, hw'⟩
  subst w'
  clear c
  go_wp2_with fail
  go_loopw [11] (fun i wr => i = .int .i64 0 ∧ wr = u.alloc (.cells #[.pointer none] 22)) (fun _ _ => 0)
  case atStart => exact ⟨rfl, rfl⟩
  case round =>
    obtain ⟨rfl, rfl⟩ := hrel
    go_wp2_with fail
    go_ret
    exact ⟨rfl, HB.out⟩
end
end Go.Proofs.YtafiopjgegmfoaaGreat.W
