/-
  WaitNone's walk.
-/
import Derived.Test.YtafiopjgegmfoaaGreatWAwk
namespace Go.Proofs.YtafiopjgegmfoaaGreat.W
open Go.RowKit Go.Maps Go.Proofs.YtafiopjgegmfoaaGreat Go.Proofs.YtafiopjgegmfoaaGreat.C Go.Proofs.YtafiopjgegmfoaaGreat.T
section
variable {w0 u u' : World} {m gm g wb : Nat} {S : M} {l : List (Nat × TX)} {x : TX} {P : Wts} {K : Own}
theorem Hw.made (h : Hw w0 u m gm S l wb P K) : Calls Tryz.prog 10 #[ptr wb] u fun r u' => r = .returned (.bool true) ∧ u' = u := by
  obtain ⟨G, H, h⟩ := h
  obtain ⟨mb, bx, _, _⟩ := h.wt.box
  exact made_at bx
theorem Hw.parkNo (h : Hw w0 u m gm S l wb P K) (k : Value) : Calls Tryz.prog 11 #[ptr wb, k, .pointer none] u fun r u' => r = .returned (.int .i64 1) ∧ u' = u := by
  obtain ⟨G, H, h⟩ := h
  exact park_noT h.wt k
theorem Hw.isX (h : Hw w0 u m gm S [(g, x)] wb P K) : ∃ F, IsX u w0.heap.size g m x F := by
  obtain ⟨G, H, h⟩ := h
  exact hg_isX (j := 0) h.hg rfl
theorem hw_newK {G : Nat → Prop} (h : Hg w0 u m gm S l G) (hK : ∀ b ∈ K, Box u b.1 b.2.1 b.2.2 ∧ ¬ G b.1 ∧ w0.heap.size ≤ b.1) : Calls Tryz.prog 6 #[ptr m] u fun r u' => ∃ wb, r = .returned (.tuple #[ptr wb, .int .i64 0]) ∧ Hw w0 u' m gm S l wb [] K := by
  refine (new_at h.mm.is).mono ?_
  rintro r u' ⟨wb, a, b, c⟩
  exact ⟨wb, a, G, _, h.below c, b.wide (fun y hy => hy) (fun y hy => ⟨Nat.le_trans h.mm.hB hy.1, hy.2⟩), fun y hy hg => by have := h.lt hg; have := hy.1; omega, fun b hb => ⟨(hK b hb).1.below c (hK b hb).1.lt, (hK b hb).2.1, fun hy => by have := (hK b hb).1.lt; have := hy.1; omega, (hK b hb).2.2⟩⟩
theorem enter9 : ∀ args w, (callFunc 9 args).run Tryz.prog w = .ok (.enter 9 args) w := enters_of Tryz.func9 (by kernel_rfl) rfl
set_option maxHeartbeats 4000000 in
set_option maxRecDepth 100000 in
theorem none18_at (n : Int) (w : World) : Calls Tryz.prog 3 #[.int .i64 n] w fun r w' => r = .returned (.bool true) ∧ Below w.heap.size w w' := by
  have c0 := new_bad (u := w) (v := .pointer none) (.inl rfl)
  obtain ⟨w1, hw1⟩ : ∃ w1, w1 = w.alloc (.cells #[.pointer none, .slice none 0 0, .int .i64 0] 29) := ⟨_, rfl⟩
  have b1 : Below w.heap.size w w1 := by rw [hw1]; exact (Below.refl _ _).alloc (Nat.le_refl _) _
  have x1 : Box w1 w.heap.size #[.pointer none, .slice none 0 0, .int .i64 0] 29 := by rw [hw1]; exact Box.new w _ 29
  have c1 := new_bad (u := w1) (v := ptr w.heap.size) (.inr ⟨_, _, _, rfl, x1⟩)
  obtain ⟨w2, hw2⟩ : ∃ w2, w2 = w1.alloc (.cells #[.pointer none, .pointer none, .map none] 32) := ⟨_, rfl⟩
  have b2 : Below w.heap.size w w2 := by rw [hw2]; exact b1.alloc b1.size _
  have x2 : Box w2 w1.heap.size #[.pointer none, .pointer none, .map none] 32 := by rw [hw2]; exact Box.new w1 _ 32
  have cn := hg_new (n := 1) (w0 := w) b2 (by omega) (by omega)
  have HX : Hid (Box w2 w1.heap.size #[.pointer none, .pointer none, .map none] 32) := x2
  have HW1 : Hid (w1 = w.alloc (.cells #[.pointer none, .slice none 0 0, .int .i64 0] 29)) := hw1
  have HW2 : Hid (w2 = w1.alloc (.cells #[.pointer none, .pointer none, .map none] 32)) := hw2
  have HB2 : Hid (Below w.heap.size w w2) := b2
  have HB1 : Hid (w.heap.size ≤ w1.heap.size) := b1.size
  clear b1 x1 x2 hw1 hw2 b2
  unfold ptr at *
  go_enter Tryz.func3, Tryz.ntmps3
  go_wp2_with fail
  refine Calls.mono c0 ?_
  rintro e wx ⟨rfl, hwx⟩
  subst wx
  clear c0
  go_wp2_with fail
  rw [← HW1.out]
  refine Calls.mono c1 ?_
  rintro e wx ⟨rfl, hwx⟩
  subst wx
  clear c1 HW1
  go_wp2_with fail
  rw [← HW2.out]
  refine Calls.mono cn ?_
  rintro e w3 ⟨m, gm, rfl, h, hb3⟩
  have HZ : Hid (w.heap.size ≤ w1.heap.size) := HB1.out
  generalize w1.heap.size = zb at *
  have HX3 : Hid (Box w3 zb #[.pointer none, .pointer none, .map none] 32) := HX.out.below hb3 HX.out.lt
  have c2 := h.begin (V := fun _ => False) 1 (by omega) (by omega)
  have HG : Hid (∀ y, (w2.heap.size ≤ y ∧ y < w3.heap.size) → ¬ y = zb) := fun y hy e => by have := HX.out.lt; omega
  unfold ptr at c2
  clear h cn HW2 HB2 HB1 HX hb3
  go_wp2_with fail
  refine Calls.mono c2 ?_
  rintro e w4 ⟨g, rfl, t⟩
  have HX4 : Hid (Box w4 zb #[.pointer none, .pointer none, .map none] 32) := Box.upd HX3.out t.upd (fun hg => hg.elim (fun hg => HG.out zb hg rfl) (fun h => h))
  have c3 := hw_newK (K := [(zb, #[.pointer none, .pointer none, .map none], 32)]) t.has (fun b hb => by
    rw [List.mem_singleton] at hb
    subst hb
    exact ⟨HX4.out, fun hg => hg.elim (fun hg => HG.out zb hg rfl) (fun hg => by have := HX3.out.lt; omega), HZ.out⟩)
  unfold ptr at c3
  clear c2 t HX3 HG HX4
  go_wp2_with fail
  refine Calls.mono c3 ?_
  rintro e w5 ⟨wb, rfl, h'⟩
  have x5 := h'.own (List.mem_cons_self ..)
  have h := h'.less (K' := []) (fun b hb => by cases hb)
  have H5 : Hid (Hw w w5 m gm (C.M0 1) [(g, X0 1 0)] wb [] []) := h
  have HX5 : Hid (Box w5 zb #[.pointer none, .pointer none, .map none] 32) := x5
  have nn := noW_nil w5
  have nz := noW_zero x5 rfl
  have k1 := h.made
  have k2 := park_none nn (.int .i64 n) (.pointer (some ⟨g, 0, none⟩))
  have k3 := park_none nz (.int .i64 n) (.pointer (some ⟨g, 0, none⟩))
  have k4 := h.parkNo (.int .i64 n)
  have k5 := forget_none nn (.int .i64 n)
  have k6 := forget_none nz (.int .i64 n)
  have k7 := changed_none w5
  unfold NoW at nn nz
  unfold ptr at k1 k4
  clear h h' x5 c3 HZ
  go_wp2_with (first
    | (go_at_call 10; (first | (with_reducible refine Calls.mono nn ?_) | (with_reducible refine Calls.mono nz ?_) | (with_reducible refine Calls.mono k1 ?_)); rintro e wx ⟨rfl, hwx⟩; subst wx)
    | (go_at_call 11; (first | (with_reducible refine Calls.mono k2 ?_) | (with_reducible refine Calls.mono k3 ?_) | (with_reducible refine Calls.mono k4 ?_)); rintro e wx ⟨rfl, hwx⟩; subst wx)
    | (go_at_call 12; (first | (with_reducible refine Calls.mono k5 ?_) | (with_reducible refine Calls.mono k6 ?_)); rintro e wx ⟨rfl, hwx⟩; subst wx))
  refine Calls.mono k7 ?_
  rintro e w6 ⟨rfl, hb6⟩
  have H6 : Hid (Hw w w6 m gm (C.M0 1) [(g, X0 1 0)] wb [] []) := H5.out.below hb6
  have nz6 := noW_zero (HX5.out.below hb6 HX5.out.lt) rfl
  have k8 := parked_none nz6
  have k9 := orElse_nil 9 9 #[] #[] w6
  clear nn nz k1 k2 k3 k4 k5 k6 k7 hb6 nz6 H5 HX5
  go_wp2_with (first | (go_at_call 14; refine Calls.mono k8 ?_; rintro e wx ⟨rfl, hwx⟩; subst wx))
  refine Calls.mono k9 ?_
  rintro e w7 ⟨rfl, hb7⟩
  have H7 : Hid (Hw w w7 m gm (C.M0 1) [(g, X0 1 0)] wb [] []) := H6.out.below hb7
  obtain ⟨F, hx7⟩ := H7.out.isX
  have k10 := orElse_one hx7 (.func (.func 9) #[] #[])
  unfold ptr at k10
  clear hb7 hx7 H6 k8 k9
  go_wp2_with fail
  refine Calls.mono k10 ?_
  rintro e w8 ⟨rfl, hb8⟩
  have H8 : Hid (Hw w w8 m gm (C.M0 1) [(g, X0 1 0)] wb [] []) := H7.out.below hb8
  obtain ⟨F, hx8⟩ := H8.out.isX
  have k11 := orElse_two hx8 9 #[]
  unfold ptr at k11
  clear hb8 hx8 H7 k10
  go_wp2_with fail
  refine Calls.mono k11 ?_
  rintro e w9 ⟨rfl, hb9⟩
  have H9 : Hid (Below w.heap.size w w9) := (H8.out.below hb9).bel
  have k12 := awake18_at w9
  clear hb9 H8 k11
  go_wp2_with fail
  refine Calls.mono k12 ?_
  rintro e w10 ⟨rfl, hb10⟩
  have H10 : Hid (Below w.heap.size w w10) := H9.out.trans (hb10.mono H9.out.size)
  clear k12 hb10
  go_wp2_with fail
  go_ret
  exact ⟨rfl, H10.out⟩
end
end Go.Proofs.YtafiopjgegmfoaaGreat.W
