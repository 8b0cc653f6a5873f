/-
  play: calls on sets.
-/
import Derived.Test.YtdlhgamepfcahaaNew
import Derived.Test.YtdlhgamepfcahaaArgs
namespace Go.Proofs.Ytdlhgamepfcahaa
open Go.RowKit Go.Maps
theorem To.trans {α : Type} {enc : α → Value} {tS tM : TypeId} {w w1 w2 : World} {B g : Nat} {S1 S2 : SS α} {F : Nat → Prop} (h : To enc tS tM w B g S1 F w1) (k : To enc tS tM w1 B g S2 (grow F w w1) w2) : To enc tS tM w B g S2 F w2 := by
  refine ⟨?_, h.2.1.trans k.2.1, h.2.2.trans k.2.2 (fun x hx => hx.imp id (fun h => h.1))⟩
  have s1 := h.2.2.1
  have s2 := k.2.2.1
  refine k.1.wide (fun x hx => ?_) (fun x hx => ?_)
  · rcases hx with hx | hx
    · exact hx.imp id (fun h => ⟨h.1, by omega⟩)
    · exact .inr ⟨by omega, hx.2⟩
  · by_cases hx1 : grow F w w1 x
    · have := h.1.fB x hx1
      omega
    · rcases hx with hx | hx
      · exact absurd (.inl hx) hx1
      · have hb := h.1.Ble
        have : ¬ x < w1.heap.size := fun e => hx1 (.inr ⟨hx.1, e⟩)
        omega
theorem To.alloc {α : Type} {enc : α → Value} {tS tM : TypeId} {w w1 : World} {B g : Nat} {S1 : SS α} {F : Nat → Prop} (h : To enc tS tM w B g S1 F w1) (o : Obj) : To enc tS tM w B g S1 F (w1.alloc o) := by
  have hb := h.1.Ble
  have s1 := h.2.2.1
  refine ⟨?_, h.2.1.alloc hb o, h.2.2.alloc o⟩
  have k := h.1.below ((Below.refl w1.heap.size w1).alloc (Nat.le_refl _) o)
  have e : (w1.alloc o).heap.size = w1.heap.size + 1 := by simp
  refine k.wide (fun x hx => hx.imp id (fun h => ⟨h.1, by omega⟩)) (fun x hx => ?_)
  by_cases hx1 : grow F w w1 x
  · have := h.1.fB x hx1
    omega
  · rcases hx with hx | hx
    · exact absurd (.inl hx) hx1
    · have : ¬ x < w1.heap.size := fun e => hx1 (.inr ⟨hx.1, e⟩)
      omega
def iv : Value → Int
  | .int _ q => q
  | _ => 0
def SS.step (S : SS Int) (b : Bool) (x : Op4) : SS Int :=
  if x.kind = 0 ∨ x.kind = 1 then (S.read x.i x.ver).2 else
  if x.kind = 2 ∨ x.kind = 3 then (S.write x.i x.v).2 else
  if b = false then S else
  if x.kind = 4 then S.mark.2 else
  if x.kind = 5 then S.keep.2 else
  if x.kind = 6 then S.undo.2 else S
def SS.play (S : SS Int) (b : Bool) (xs : List Op4) : SS Int := xs.foldl (fun S x => S.step b x) S
theorem play_take {S : SS Int} {b : Bool} {xs : List Op4} {k : Nat} (h : k < xs.length) : S.play b (xs.take (k + 1)) = (S.play b (xs.take k)).step b xs[k] := by
  unfold SS.play
  rw [List.take_succ_eq_append_getElem h, List.foldl_append]
  rfl
set_option maxRecDepth 100000 in
set_option maxHeartbeats 8000000 in
theorem play_at {w : World} {B g : Nat} {S : SS Int} {F : Nat → Prop} (h : IsS encI 52 49 w B g S F) (b : Bool) (a0 : Option Addr) (n0 c0 : Nat) (os : List Op4) (hl : os.length = n0) (hr : ∀ u, Below B w u → RdOps u a0 os) (hn : n0 ≤ 9223372036854775807) :
    Calls Try.prog 29 #[ptr g, .slice a0 n0 c0, .bool b] w fun r w' => r = .returned (.tuple #[]) ∧ To encI 52 49 w B g (S.play b (os.take 200)) F w' := by
  have H0 : Hid (To encI 52 49 w B g S F w) := To.refl h
  have hn' : (n0 : Int) ≤ 9223372036854775807 := by omega
  have HR : Hid (∀ u, Below B w u → RdOps u a0 os) := hr
  have HL : Hid (os.length = n0) := hl
  have hend : Hid (∀ k, k ≤ 200 → k ≤ n0 → ¬ (k < n0 ∧ k < 200) → os.take k = os.take 200) := fun k h1 h2 h3 => by
    by_cases e : k = 200
    · rw [e]
    · rw [List.take_of_length_le (by omega), List.take_of_length_le (by omega)]
  clear h hr hl
  unfold ptr
  go_enter Try.func29, Try.ntmps29
  go_wp2
  go_loopw [6] (fun i u => ∃ k : Nat, k ≤ 200 ∧ k ≤ n0 ∧ i = .int .i64 (k : Int) ∧ To encI 52 49 w B g (S.play b (os.take k)) F u) (fun i _ => 200 - (iv i).toNat)
  case atStart => exact ⟨0, by omega, by omega, rfl, H0.out⟩
  case round =>
    obtain ⟨k, hk200, hkn, rfl, ht⟩ := hrel
    obtain ⟨wa, hwa⟩ : ∃ wa, wa = wr := ⟨_, rfl⟩
    subst hwa
    have HT : Hid (To encI 52 49 w B g (S.play b (os.take k)) F wa) := ht
    clear H0
    by_cases hgo : k < n0 ∧ k < 200
    · obtain ⟨hg1, hg2⟩ := hgo
      have hi1 : (k : Int) < (n0 : Int) := by omega
      have hi2 : (k : Int) < 200 := by omega
      have hk : k < os.length := by rw [HL.out]; exact hg1
      obtain ⟨bb, oo, rfl, hc⟩ := HR.out wa ht.2.1 (by omega)
      obtain ⟨x0, x1, x2, x3⟩ := hc k hk
      have hst : Hid (S.play b (os.take (k + 1)) = (S.play b (os.take k)).step b os[k]) := play_take hk
      generalize hx : os[k] = x at *
      generalize S.play b (os.take k) = S1 at *
      have ta := To.alloc ht (.cells #[.int .i64 x.kind, .int .i64 x.i, .int .i64 x.v, .int .i64 x.ver] 32)
      have HTA : Hid (To encI 52 49 w B g S1 F (wa.alloc (.cells #[.int .i64 x.kind, .int .i64 x.i, .int .i64 x.v, .int .i64 x.ver] 32))) := ta
      have HD : Hid (∀ u S', To encI 52 49 (wa.alloc (.cells #[.int .i64 x.kind, .int .i64 x.i, .int .i64 x.v, .int .i64 x.ver] 32)) B g S' (grow F w (wa.alloc (.cells #[.int .i64 x.kind, .int .i64 x.i, .int .i64 x.v, .int .i64 x.ver] 32))) u → S' = S1.step b x → To encI 52 49 w B g (S.play b (os.take (k + 1))) F u) := fun u S' h1 h2 => by
        rw [hst.out, ← h2]
        exact ta.trans h1
      have HD0 : Hid (S1 = S1.step b x → To encI 52 49 w B g (S.play b (os.take (k + 1))) F (wa.alloc (.cells #[.int .i64 x.kind, .int .i64 x.i, .int .i64 x.v, .int .i64 x.ver] 32))) := fun h2 => by
        rw [hst.out, ← h2]
        exact ta
      have cR := read_at ta.1 x.i x.ver
      have cW := write_at ta.1 x.i x.v
      have cM := mark_at ta.1
      have cK := keep_at ta.1
      have cU := undo_at ta.1
      unfold ptr encI at cR cW cM cK cU
      clear ht hc hst ta
      obtain ⟨xk, xi, xv, xr⟩ := x
      simp only at x0 x1 x2 x3 cR cW cM cK cU HTA HD HD0
      by_cases e0 : xk = 0
      · subst e0
        go_wp2_with fail
        refine Calls.mono cR ?_
        rintro e w2 ⟨rfl, h2⟩
        go_wp2
        go_roundw
        case rel => exact ⟨k + 1, by omega, by omega, by simp, HD.out w2 _ h2 (by simp [SS.step])⟩
        case measure => simp only [iv]; omega
      by_cases e1 : xk = 1
      · subst e1
        go_wp2_with fail
        refine Calls.mono cR ?_
        rintro e w2 ⟨rfl, h2⟩
        go_wp2
        go_roundw
        case rel => exact ⟨k + 1, by omega, by omega, by simp, HD.out w2 _ h2 (by simp [SS.step])⟩
        case measure => simp only [iv]; omega
      by_cases e2 : xk = 2
      · subst e2
        go_wp2_with fail
        refine Calls.mono cW ?_
        rintro e w2 ⟨rfl, h2⟩
        go_wp2
        go_roundw
        case rel => exact ⟨k + 1, by omega, by omega, by simp, HD.out w2 _ h2 (by simp [SS.step])⟩
        case measure => simp only [iv]; omega
      by_cases e3 : xk = 3
      · subst e3
        go_wp2_with fail
        refine Calls.mono cW ?_
        rintro e w2 ⟨rfl, h2⟩
        go_wp2
        go_roundw
        case rel => exact ⟨k + 1, by omega, by omega, by simp, HD.out w2 _ h2 (by simp [SS.step])⟩
        case measure => simp only [iv]; omega
      cases b with
      | true =>
        by_cases e4 : xk = 4
        · subst e4
          go_wp2_with fail
          refine Calls.mono cM ?_
          rintro e w2 ⟨rfl, h2⟩
          go_wp2
          go_roundw
          case rel => exact ⟨k + 1, by omega, by omega, by simp, HD.out w2 _ h2 (by simp [SS.step])⟩
          case measure => simp only [iv]; omega
        by_cases e5 : xk = 5
        · subst e5
          go_wp2_with fail
          refine Calls.mono cK ?_
          rintro e w2 ⟨rfl, h2⟩
          go_wp2
          go_roundw
          case rel => exact ⟨k + 1, by omega, by omega, by simp, HD.out w2 _ h2 (by simp [SS.step])⟩
          case measure => simp only [iv]; omega
        by_cases e6 : xk = 6
        · subst e6
          go_wp2_with fail
          refine Calls.mono cU ?_
          rintro e w2 ⟨rfl, h2⟩
          go_wp2
          go_roundw
          case rel => exact ⟨k + 1, by omega, by omega, by simp, HD.out w2 _ h2 (by simp [SS.step])⟩
          case measure => simp only [iv]; omega
        go_wp2
        go_roundw
        case rel => exact ⟨k + 1, by omega, by omega, by simp, HD0.out (by simp [SS.step, *])⟩
        case measure => simp only [iv]; omega
      | false =>
        by_cases e4 : xk = 4
        · subst e4
          go_wp2
          go_roundw
          case rel => exact ⟨k + 1, by omega, by omega, by simp, HD0.out (by simp [SS.step, *])⟩
          case measure => simp only [iv]; omega
        by_cases e5 : xk = 5
        · subst e5
          go_wp2
          go_roundw
          case rel => exact ⟨k + 1, by omega, by omega, by simp, HD0.out (by simp [SS.step, *])⟩
          case measure => simp only [iv]; omega
        by_cases e6 : xk = 6
        · subst e6
          go_wp2
          go_roundw
          case rel => exact ⟨k + 1, by omega, by omega, by simp, HD0.out (by simp [SS.step, *])⟩
          case measure => simp only [iv]; omega
        go_wp2
        go_roundw
        case rel => exact ⟨k + 1, by omega, by omega, by simp, HD0.out (by simp [SS.step, *])⟩
        case measure => simp only [iv]; omega
    · have hno : Hid (os.take k = os.take 200) := hend.out k hk200 hkn hgo
      rcases Nat.lt_or_ge k n0 with h1 | h1
      · have h2 : ¬ (k : Int) < 200 := by omega
        have h3 : (k : Int) < (n0 : Int) := by omega
        go_wp2
        go_end0
        exact ⟨rfl, hno.out ▸ HT.out⟩
      · have h3 : ¬ (k : Int) < (n0 : Int) := by omega
        go_wp2
        go_end0
        exact ⟨rfl, hno.out ▸ HT.out⟩
end Go.Proofs.Ytdlhgamepfcahaa
