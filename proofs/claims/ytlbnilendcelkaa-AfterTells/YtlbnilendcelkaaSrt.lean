/-
  slices.SortStableFunc.
-/
import Derived.Test.YtlbnilendcelkaaSta
namespace Go.Proofs.Ytlbnilendcelkaa
open Go.RowKit
namespace I
theorem insertion_nil (w : World) (f : Value) : Calls Try.prog 46 #[.slice none 0 0, .int .i64 0, .int .i64 0, f] w fun r w' => r = .returned (.tuple #[]) ∧ w' = w := by
  go_enter Try.func46, Try.ntmps46
  go_wp2_with fail
  go_loopw [8] (fun v u => v = .int .i64 1 ∧ u = w) (fun _ _ => 0)
  case atStart => exact ⟨rfl, rfl⟩
  case round =>
    obtain ⟨rfl, rfl⟩ := hrel
    go_wp2_with fail
    go_end0
    exact ⟨rfl, rfl⟩
theorem stable_nil (w : World) (f : Value) : Calls Try.prog 37 #[.slice none 0 0, .int .i64 0, f] w fun r w' => r = .returned (.tuple #[]) ∧ w' = w := by
  have c0 := insertion_nil w f
  go_enter Try.func37, Try.ntmps37
  go_wp2_with fail
  go_loopw [7, 8] (fun v v' u => v = .int .i64 0 ∧ v' = .int .i64 20 ∧ u = w) (fun _ _ _ => 0)
  case atStart => exact ⟨rfl, rfl, rfl⟩
  case round =>
    obtain ⟨rfl, rfl, rfl⟩ := hrel
    go_wp2_with (go_at_call 46; refine c0.mono ?_; rintro _ w' ⟨rfl, rfl⟩)
    go_loopw [6] (fun v u => v = .int .i64 20 ∧ u = w') (fun _ _ => 0)
    case atStart => exact ⟨rfl, rfl⟩
    case round =>
      obtain ⟨rfl, rfl⟩ := hrel
      go_wp2_with fail
      go_end0
      exact ⟨rfl, rfl⟩
/-- what is due is put in order -/
theorem sort_at {w : World} {B : Nat} {v : Value} (l : List (En Int)) (h : IsRow eI 33 w B v l) (hn : l.length ≤ 2000) :
    Calls Try.prog 27 #[v, .func (.func 28) #[] #[]] w fun r w' => r = .returned (.tuple #[]) ∧ ∃ L, Stb En.ver l L ∧ IsRow eI 33 w' B v L ∧ Chg (fun k => v.ownBlock = some k) w w' := by
  rcases h.lay with ⟨rfl, rfl⟩ | ⟨g, cap, rfl, hB, hl⟩
  · have c0 := I.stable_nil w (.func (.func 28) #[] #[])
    go_enter Try.func27, Try.ntmps27
    go_wp2_with (go_at_call 37; refine c0.mono ?_; rintro _ w' ⟨rfl, rfl⟩)
    go_end0
    exact ⟨rfl, [], ⟨by simp [Rise], fun _ => rfl, rfl⟩, IsRow.nil _ _ _ _, Chg.refl _ _⟩
  · have c0 := I.stable_at (c := cap) (N := l.length) l ⟨hl, Chg.refl _ w⟩ rfl hn
    have HG : Hid (∀ u, (∃ L, Stb En.ver l L ∧ Srt eI 33 w u g cap L) → ∃ L, Stb En.ver l L ∧ IsRow eI 33 u B (.slice (some ⟨g, 0, none⟩) l.length cap) L ∧ Chg (fun k => (Value.slice (some ⟨g, 0, none⟩) l.length cap).ownBlock = some k) w u) := fun u ⟨L, h1, h2⟩ => ⟨L, h1, by have := h2.lay.row hB; rw [h1.len] at this; exact this, h2.chg.mono (fun i _ (e : i = g) => by rw [e]; rfl)⟩
    clear h hl
    generalize l.length = N at *
    go_enter Try.func27, Try.ntmps27
    go_wp2_with (go_at_call 37; refine c0.mono ?_; rintro _ w' ⟨rfl, hS'⟩; replace hS' := HG.out _ hS'; have HS' := hid hS'; clear hS' c0 HG)
    go_end0
    exact ⟨rfl, HS'.out⟩
end I
namespace S
theorem insertion_nil (w : World) (f : Value) : Calls Try.prog 51 #[.slice none 0 0, .int .i64 0, .int .i64 0, f] w fun r w' => r = .returned (.tuple #[]) ∧ w' = w := by
  go_enter Try.func51, Try.ntmps51
  go_wp2_with fail
  go_loopw [8] (fun v u => v = .int .i64 1 ∧ u = w) (fun _ _ => 0)
  case atStart => exact ⟨rfl, rfl⟩
  case round =>
    obtain ⟨rfl, rfl⟩ := hrel
    go_wp2_with fail
    go_end0
    exact ⟨rfl, rfl⟩
theorem stable_nil (w : World) (f : Value) : Calls Try.prog 48 #[.slice none 0 0, .int .i64 0, f] w fun r w' => r = .returned (.tuple #[]) ∧ w' = w := by
  have c0 := insertion_nil w f
  go_enter Try.func48, Try.ntmps48
  go_wp2_with fail
  go_loopw [7, 8] (fun v v' u => v = .int .i64 0 ∧ v' = .int .i64 20 ∧ u = w) (fun _ _ _ => 0)
  case atStart => exact ⟨rfl, rfl, rfl⟩
  case round =>
    obtain ⟨rfl, rfl, rfl⟩ := hrel
    go_wp2_with (go_at_call 51; refine c0.mono ?_; rintro _ w' ⟨rfl, rfl⟩)
    go_loopw [6] (fun v u => v = .int .i64 20 ∧ u = w') (fun _ _ => 0)
    case atStart => exact ⟨rfl, rfl⟩
    case round =>
      obtain ⟨rfl, rfl⟩ := hrel
      go_wp2_with fail
      go_end0
      exact ⟨rfl, rfl⟩
set_option maxRecDepth 100000 in
set_option maxHeartbeats 8000000 in
theorem stable_at {w0 w : World} {g cap N c : Nat} (X : List (En ByteArray)) (h : Srt eS 67 w0 w g cap X) (hN : N = X.length) (hn : N < 20) :
    Calls Try.prog 48 #[.slice (some ⟨g, 0, none⟩) N c, .int .i64 (N : Int), .func (.func 43) #[] #[]] w fun r w' => r = .returned (.tuple #[]) ∧ ∃ L, Stb En.ver X L ∧ Srt eS 67 w0 w' g cap L := by
  have c0 := S.insertion_at (c := c) (N := N) [] X [] (by simpa using h.lay) (by simpa using hN) (by omega) 0 N rfl (by simpa using hN)
  have HG : Hid (∀ u, (∃ Mid', Stb En.ver X Mid' ∧ Srt eS 67 w u g cap ([] ++ Mid' ++ [])) → ∃ L, Stb En.ver X L ∧ Srt eS 67 w0 u g cap L) := fun u ⟨M', h1, h2⟩ => ⟨M', h1, h.trans (by simpa using h2)⟩
  have hlt : ¬ (20 : Int) ≤ (N : Int) := by omega
  have hlt2 : ¬ (20 : Int) < (N : Int) := by omega
  clear h hN
  rw [show ((0 : Nat) : Int) = 0 from rfl] at c0
  go_enter Try.func48, Try.ntmps48
  go_wp2_with fail
  go_loopw [7, 8] (fun v v' u => v = .int .i64 0 ∧ v' = .int .i64 20 ∧ u = w) (fun _ _ _ => 0)
  case atStart => exact ⟨rfl, rfl, rfl⟩
  case round =>
    obtain ⟨rfl, rfl, rfl⟩ := hrel
    go_wp2_with (go_at_call 51; refine c0.mono ?_; rintro _ w' ⟨rfl, hS'⟩; replace hS' := HG.out _ hS'; have HS' := hid hS'; clear hS' c0 HG)
    go_loopw [6] (fun v u => v = .int .i64 20 ∧ u = w') (fun _ _ => 0)
    case atStart => exact ⟨rfl, rfl⟩
    case round =>
      obtain ⟨rfl, rfl⟩ := hrel
      go_wp2_with fail
      go_end0
      exact ⟨rfl, HS'.out⟩
/-- what is due is put in order -/
theorem sort_at {w : World} {B : Nat} {v : Value} (l : List (En ByteArray)) (h : IsRow eS 67 w B v l) (hn : l.length < 20) :
    Calls Try.prog 42 #[v, .func (.func 43) #[] #[]] w fun r w' => r = .returned (.tuple #[]) ∧ ∃ L, Stb En.ver l L ∧ IsRow eS 67 w' B v L ∧ Chg (fun k => v.ownBlock = some k) w w' := by
  rcases h.lay with ⟨rfl, rfl⟩ | ⟨g, cap, rfl, hB, hl⟩
  · have c0 := S.stable_nil w (.func (.func 43) #[] #[])
    go_enter Try.func42, Try.ntmps42
    go_wp2_with (go_at_call 48; refine c0.mono ?_; rintro _ w' ⟨rfl, rfl⟩)
    go_end0
    exact ⟨rfl, [], ⟨by simp [Rise], fun _ => rfl, rfl⟩, IsRow.nil _ _ _ _, Chg.refl _ _⟩
  · have c0 := S.stable_at (c := cap) (N := l.length) l ⟨hl, Chg.refl _ w⟩ rfl hn
    have HG : Hid (∀ u, (∃ L, Stb En.ver l L ∧ Srt eS 67 w u g cap L) → ∃ L, Stb En.ver l L ∧ IsRow eS 67 u B (.slice (some ⟨g, 0, none⟩) l.length cap) L ∧ Chg (fun k => (Value.slice (some ⟨g, 0, none⟩) l.length cap).ownBlock = some k) w u) := fun u ⟨L, h1, h2⟩ => ⟨L, h1, by have := h2.lay.row hB; rw [h1.len] at this; exact this, h2.chg.mono (fun i _ (e : i = g) => by rw [e]; rfl)⟩
    clear h hl
    generalize l.length = N at *
    go_enter Try.func42, Try.ntmps42
    go_wp2_with (go_at_call 48; refine c0.mono ?_; rintro _ w' ⟨rfl, hS'⟩; replace hS' := HG.out _ hS'; have HS' := hid hS'; clear hS' c0 HG)
    go_end0
    exact ⟨rfl, HS'.out⟩
end S
end Go.Proofs.Ytlbnilendcelkaa
