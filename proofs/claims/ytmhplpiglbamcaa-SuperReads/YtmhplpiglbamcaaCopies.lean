/-
  Copies of extents and of an inode.
-/
import Derived.Test.YtmhplpiglbamcaaRefGetI
import Derived.Test.YtmhplpiglbamcaaArgs
namespace Go.Proofs.Ytmhplpiglbamcaa
open Go.RowKit

theorem copyExtents_at (cap n : Nat) (a : Option Addr) (es : List Ext) (w : World) (hl : es.length = n) (hn : n ≤ 100000) (hr : RdE w a es) (hnil : a = none → cap = 0) :
    Calls Try.prog 21 #[.slice a n cap] w fun e w' => ∃ v, e = .returned v ∧ w'.ownsRow w.heap.size 46 3 v n (ecs es) ∧ Below w.heap.size w w' := by
  obtain ⟨i0, hi, hz0, hz1, hz2⟩ := info_parts info46
  cases a with
  | none =>
    obtain rfl := hnil rfl
    have h0 : es.length = 0 := by
      apply Decidable.byContradiction
      intro h
      obtain ⟨_, _, h', _⟩ := hr (by omega)
      simp at h'
    obtain rfl : es = [] := List.eq_nil_of_length_eq_zero h0
    obtain rfl : n = 0 := hl.symm
    go_enter Try.func21, Try.ntmps21
    go_wp2_with (at_builtin; refine wpList_append_own_none rfl _ _ 30 rfl w.heap.size 46 i0 3 Try.underlying30 hi (.slice none 0 0) 0 [] rfl (World.ownsRow_nil _ _ _ _) rfl ?_)
    go_ret
    exact ⟨_, rfl, World.ownsRow_nil _ _ _ _, Below.refl _ _⟩
  | some ad =>
    have Hl : Hid _ := hl
    clear hl
    go_enter Try.func21, Try.ntmps21
    go_wp2_with (at_builtin; refine wpList_append_own _ rfl _ _ 30 rfl w.heap.size 46 i0 (.agg #[.int .i64 0, .int .i64 0, .int .i64 0]) 3 24 Try.underlying30 hi hz0 hz1 hz2 rfl (by decide) (.slice none 0 0) 0 [] rfl (World.ownsRow_nil _ _ _ _) ad n cap (ecs es) rfl ?c0 ?c1 (ecs_oneCell es) ?c2 ?c3 (Nat.le_refl _) ?_)
    case c0 => rw [ecs_length, Hl.out]
    case c1 =>
      intro j u hj
      have hj' : j < es.length * 3 := by have := (List.getElem?_eq_some_iff.1 hj).1; simpa [ecs_length] using this
      obtain ⟨b, o, he, hc⟩ := hr (by omega)
      obtain rfl := Option.some.inj he
      have hq : j / 3 < es.length := by omega
      obtain ⟨h0, h1, h2⟩ := hc (j / 3) hq
      obtain ⟨k0, k1, k2⟩ := ecs_at es (j / 3) hq
      rw [Addr.add_lit]
      have h3 : j % 3 = 0 ∨ j % 3 = 1 ∨ j % 3 = 2 := by omega
      rcases h3 with h3 | h3 | h3
      · have e : j = j / 3 * 3 := by omega
        rw [← e] at h0 k0
        rw [k0] at hj
        rw [h0]; exact hj
      · have e : j = j / 3 * 3 + 1 := by omega
        rw [← e] at k1
        rw [Nat.add_assoc, ← e] at h1
        rw [k1] at hj
        rw [h1]; exact hj
      · have e : j = j / 3 * 3 + 2 := by omega
        rw [← e] at k2
        rw [Nat.add_assoc, ← e] at h2
        rw [k2] at hj
        rw [h2]; exact hj
    case c2 => unfold maxLen; omega
    case c3 => omega
    · intro v' w1 hown hgrow _
      have hown1 : w1.ownsRow w.heap.size 46 3 v' n (ecs es) := by simpa using hown
      have hb : Below w.heap.size w w1 := (Below.refl _ _).grown hgrow (Nat.le_refl _) (fun k hk => by simp [Value.ownBlock] at hk)
      clear hgrow hown
      go_wp2
      go_ret
      exact ⟨_, rfl, hown1, hb⟩

set_option maxRecDepth 100000 in
theorem copyInode_at (k cap n : Nat) (l s d : Int) (a : Option Addr) (es : List Ext) (w : World) (hl : es.length = n) (hn : n ≤ 100000) (hr : RdE w a es) (hnil : a = none → cap = 0) :
    Calls Try.prog 20 #[.agg #[.int .u8 (k : Int), .int .i64 l, .int .i64 s, .slice a n cap, .int .i64 d]] w fun e w' => ∃ a' c', e = .returned (.agg #[.int .u8 (k : Int), .int .i64 l, .int .i64 s, .slice a' n c', .int .i64 d]) ∧ w'.ownsRow w.heap.size 46 3 (.slice a' n c') n (ecs es) ∧ Below w.heap.size w w' := by
  have Hl : Hid _ := hl
  clear hl
  have B1 := (Below.refl w.heap.size w).alloc (Nat.le_refl _) (.cells #[.int .u8 (k : Int), .int .i64 l, .int .i64 s, .slice a n cap, .int .i64 d] 32)
  have x1 := Box.new w #[.int .u8 (k : Int), .int .i64 l, .int .i64 s, .slice a n cap, .int .i64 d] 32
  obtain ⟨U, hU⟩ : ∃ U, U = w.alloc (.cells #[.int .u8 (k : Int), .int .i64 l, .int .i64 s, .slice a n cap, .int .i64 d] 32) := ⟨_, rfl⟩
  have hs : U.heap.size = w.heap.size + 1 := by rw [hU]; simp
  rw [← hU] at B1 x1
  have B2 := B1.alloc B1.size (.cells #[.int .u8 0, .int .i64 0, .int .i64 0, .slice none 0 0, .int .i64 0] 32)
  have x2 := x1.alloc (.cells #[.int .u8 0, .int .i64 0, .int .i64 0, .slice none 0 0, .int .i64 0] 32)
  have y2 := Box.new U #[.int .u8 0, .int .i64 0, .int .i64 0, .slice none 0 0, .int .i64 0] 32
  rw [hs] at y2
  obtain ⟨V, hV⟩ : ∃ V, V = U.alloc (.cells #[.int .u8 0, .int .i64 0, .int .i64 0, .slice none 0 0, .int .i64 0] 32) := ⟨_, rfl⟩
  rw [← hV] at B2 x2 y2
  have c := copyExtents_at cap n a es V Hl.out hn (hr.below B2 (Nat.le_refl _)) hnil
  rw [hU] at hV
  have HV : Hid _ := hV
  clear hV hU hs B1 x1
  go_enter Try.func20, Try.ntmps20
  go_wp2_with fail
  rw [← HV.out]
  refine c.mono ?_
  rintro r w1 ⟨v, rfl, o1, b1⟩
  obtain ⟨a1, c1, rfl, _⟩ := ownsE_parts o1
  have B3 := B2.trans (b1.mono B2.size)
  have x3 := x2.below b1
  have y3 := y2.below b1
  have o1' := owns_weaken o1 B2.size
  clear c B2 x2 y2 b1 o1
  have f3 := x3.frozen 3
  have m3 := x3.cell 3
  simp only [List.getElem?_toArray, List.getElem?_cons_zero, List.getElem?_cons_succ] at m3
  have g1 := grown_store w1 w.heap.size 3 (.slice a1 n c1)
  have x4 := x3.store 3 (.slice a1 n c1)
  have y4 : Box (w1.setCell ⟨w.heap.size, 3, none⟩ (.slice a1 n c1)) (w.heap.size + 1) #[.int .u8 0, .int .i64 0, .int .i64 0, .slice none 0 0, .int .i64 0] 32 := (g1.block _ y3.lt (by simp)).trans y3
  have o2 := o1'.kept g1 (.inr (fun h => own_tag o1' x3 (by decide) h.symm))
  have B4 := B3.setCell (p := ⟨w.heap.size, 3, none⟩) (Nat.le_refl _) (.slice a1 n c1)
  obtain ⟨X, hX⟩ : ∃ X, X = w1.setCell ⟨w.heap.size, 3, none⟩ (.slice a1 n c1) := ⟨_, rfl⟩
  rw [← hX] at x4 y4 o2 B4
  have HX : Hid _ := hX
  clear hX g1 x3 y3 B3
  simp only [List.setIfInBounds_toArray, List.set_cons_zero, List.set_cons_succ] at x4
  have q0 := x4.cell 0
  have q1 := x4.cell 1
  have q2 := x4.cell 2
  have q3 := x4.cell 3
  have q4 := x4.cell 4
  simp only [List.getElem?_toArray, List.getElem?_cons_zero, List.getElem?_cons_succ] at q0 q1 q2 q3 q4
  have z0 := y4.cell 0
  have z1 := y4.cell 1
  have z2 := y4.cell 2
  have z3 := y4.cell 3
  have z4 := y4.cell 4
  simp only [List.getElem?_toArray, List.getElem?_cons_zero, List.getElem?_cons_succ] at z0 z1 z2 z3 z4
  have h0 := y4.frozen 0
  have h1 := y4.frozen 1
  have h2 := y4.frozen 2
  have h3 := y4.frozen 3
  have h4 := y4.frozen 4
  go_upto_region 2 with fail
  rw [← HX.out]
  clear f3 m3
  go_wp2_with fail
  clear q0 q1 q2 q3 q4 z0 z1 z2 z3 z4 h0 h1 h2 h3 h4
  have Y := ((((y4.store 0 (.int .u8 (k : Int))).store 1 (.int .i64 l)).store 2 (.int .i64 s)).store 3 (.slice a1 n c1)).store 4 (.int .i64 d)
  have C1 := (((((B4.setCell (p := ⟨w.heap.size + 1, 0, none⟩) (by simp) (.int .u8 (k : Int))).setCell (p := ⟨w.heap.size + 1, 1, none⟩) (by simp) (.int .i64 l)).setCell (p := ⟨w.heap.size + 1, 2, none⟩) (by simp) (.int .i64 s)).setCell (p := ⟨w.heap.size + 1, 3, none⟩) (by simp) (.slice a1 n c1)).setCell (p := ⟨w.heap.size + 1, 4, none⟩) (by simp) (.int .i64 d))
  have gr : X.grownBy (((((X.setCell ⟨w.heap.size + 1, 0, none⟩ (.int .u8 (k : Int))).setCell ⟨w.heap.size + 1, 1, none⟩ (.int .i64 l)).setCell ⟨w.heap.size + 1, 2, none⟩ (.int .i64 s)).setCell ⟨w.heap.size + 1, 3, none⟩ (.slice a1 n c1)).setCell ⟨w.heap.size + 1, 4, none⟩ (.int .i64 d)) (some (w.heap.size + 1)) := grown_trans (grown_trans (grown_trans (grown_trans (grown_store _ _ 0 _) (grown_store _ _ 1 _)) (grown_store _ _ 2 _)) (grown_store _ _ 3 _)) (grown_store _ _ 4 _)
  have o3 := o2.kept gr (.inr (fun h => own_tag o2 y4 (by decide) h.symm))
  clear gr
  generalize (((((X.setCell ⟨w.heap.size + 1, 0, none⟩ (.int .u8 (k : Int))).setCell ⟨w.heap.size + 1, 1, none⟩ (.int .i64 l)).setCell ⟨w.heap.size + 1, 2, none⟩ (.int .i64 s)).setCell ⟨w.heap.size + 1, 3, none⟩ (.slice a1 n c1)).setCell ⟨w.heap.size + 1, 4, none⟩ (.int .i64 d)) = W9 at Y C1 o3 ⊢
  have m0 := Y.cell 0
  have m1 := Y.cell 1
  have m2 := Y.cell 2
  have m3 := Y.cell 3
  have m4 := Y.cell 4
  simp at m0 m1 m2 m3 m4
  refine bodyPost_ret (v := .agg #[.int .u8 (k : Int), .int .i64 l, .int .i64 s, .slice a1 n c1, .int .i64 d]) (by simp [results, Try.results20, go_sem, m0, m1, m2, m3, m4]) rfl ?_
  exact ⟨a1, c1, rfl, o3, C1⟩
end Go.Proofs.Ytmhplpiglbamcaa
