/-
  The document's own sets: rising puts numbers in order.
-/
import Derived.Test.YtdneikfocefnfaaRfMark
namespace Go.Proofs.Ytdneikfocefnfaa
open Go.RowKit
def OrdX (L : List Int) (i k : Nat) : Prop := ∀ a b, a < b → b ≤ i → b ≠ k → L.getD a 0 ≤ L.getD b 0
def OrdI (L : List Int) (i : Nat) : Prop := ∀ a b, a < b → b < i → L.getD a 0 ≤ L.getD b 0
theorem OrdI.start {L : List Int} {i : Nat} (h : OrdI L i) : OrdX L i i := fun a b hab hb hne => h a b hab (by omega)
theorem OrdX.zero {L : List Int} {i : Nat} (h : OrdX L i 0) : OrdI L (i + 1) := fun a b hab hb => h a b hab (by omega) (by omega)
theorem OrdX.stop {L : List Int} {i k : Nat} (h : OrdX L i (k + 1)) (hk : L.getD k 0 ≤ L.getD (k + 1) 0) : OrdI L (i + 1) := fun a b hab hb => by
  by_cases e : b = k + 1
  · subst e
    by_cases e2 : a = k
    · rw [e2]; exact hk
    · exact Int.le_trans (h a k (by omega) (by omega) (by omega)) hk
  · exact h a b hab (by omega) e
theorem getD_swap {L : List Int} {k : Nat} (hk : k + 1 < L.length) (j : Nat) : ((L.set (k + 1) (L.getD k 0)).set k (L.getD (k + 1) 0)).getD j 0 = if j = k then L.getD (k + 1) 0 else if j = k + 1 then L.getD k 0 else L.getD j 0 := by
  simp only [List.getD_eq_getElem?_getD, List.getElem?_set, List.length_set]
  by_cases e : j = k
  · subst e; simp [show j < L.length by omega]
  · rw [if_neg (by omega), if_neg e]
    by_cases e2 : j = k + 1
    · subst e2; simp [hk]
    · rw [if_neg (by omega), if_neg e2]
theorem OrdX.swap {L : List Int} {i k : Nat} (h : OrdX L i (k + 1)) (hk : k + 1 < L.length) (_hi : k + 1 ≤ i) (hlt : L.getD (k + 1) 0 < L.getD k 0) : OrdX ((L.set (k + 1) (L.getD k 0)).set k (L.getD (k + 1) 0)) i k := fun a b hab hb hne => by
  rw [getD_swap hk, getD_swap hk]
  rw [if_neg hne]
  by_cases eb : b = k + 1
  · rw [if_pos eb]
    by_cases ea : a = k
    · rw [if_pos ea]; omega
    · rw [if_neg ea, if_neg (by omega)]
      exact h a k (by omega) (by omega) (by omega)
  · rw [if_neg eb]
    by_cases ea : a = k
    · rw [if_pos ea]
      exact h (k + 1) b (by omega) hb (by omega)
    · rw [if_neg ea]
      by_cases ea2 : a = k + 1
      · rw [if_pos ea2]
        exact h k b (by omega) hb (by omega)
      · rw [if_neg ea2]
        exact h a b hab hb (by omega)
theorem swap_perm {L : List Int} {k : Nat} (hk : k + 1 < L.length) : ((L.set (k + 1) (L.getD k 0)).set k (L.getD (k + 1) 0)).Perm L := by
  have := List.set_set_perm hk (show k < L.length by omega)
  have e1 : L.getD k 0 = L[k] := by rw [List.getD_eq_getElem?_getD, List.getElem?_eq_getElem (by omega)]; rfl
  have e2 : L.getD (k + 1) 0 = L[k + 1] := by rw [List.getD_eq_getElem?_getD, List.getElem?_eq_getElem hk]; rfl
  rw [e1, e2]
  exact this
theorem OrdI.srt {L l : List Int} (h : OrdI L L.length) (hp : L.Perm l) : srt l = L := by
  rw [← srt_perm hp]
  unfold Go.Proofs.Ytdneikfocefnfaa.srt
  refine List.mergeSort_of_pairwise (List.pairwise_iff_getElem.2 fun a b ha hb hab => ?_)
  have := h a b hab hb
  rw [List.getD_eq_getElem?_getD, List.getD_eq_getElem?_getD, List.getElem?_eq_getElem ha, List.getElem?_eq_getElem hb] at this
  simpa using this
/-- a row of numbers, one's own, while it is put in order -/
structure Rng (w u : World) (B g n c : Nat) (l L : List Int) : Prop where
  len : L.length = n
  prm : L.Perm l
  row : u.ownsRow B 3 1 (.slice (some ⟨g, 0, none⟩) n c) n (zcs L)
  grw : w.grownBy u (some g)
theorem Rng.drew {w u : World} {B g n c : Nat} {l L : List Int} (h : Rng w u B g n c l L) (q : Nat) : Rng w (u.drewN q) B g n c l L := ⟨h.len, h.prm, ownsRow_same h.row (fun _ _ => rfl), ⟨h.grw.os, h.grw.tape, h.grw.output, h.grw.size, h.grw.block⟩⟩
theorem Rng.cell {w u : World} {B g n c : Nat} {l L : List Int} (h : Rng w u B g n c l L) (k : Nat) (hk : k < n) : u.cell? ⟨g, k, none⟩ = some (.int .i64 (L.getD k 0)) ∧ u.frozen? ⟨g, k, none⟩ = false := by
  rcases h.row.2 with ⟨e, _⟩ | ⟨g', cap, cur, e, a1, a2, a3, a4, a5, a6⟩
  · cases e
  · injection e with e1 e2 e3
    injection e1 with e1
    injection e1 with e1
    subst e1
    refine ⟨?_, Box.frozen a2 k⟩
    have hl := h.len
    rw [Box.cell a2, ← Array.getElem?_toList]
    have : cur.toList[k]? = (zcs L)[k]? := by rw [← a6, List.getElem?_take, if_pos (by omega)]
    rw [this]
    simp [zcs, encI, List.getD_eq_getElem?_getD, show k < L.length by omega]
theorem Rng.store {w u : World} {B g n c : Nat} {l L : List Int} (h : Rng w u B g n c l L) (k : Nat) (hk : k + 1 < n) : Rng w ((u.setCell ⟨g, k + 1, none⟩ (.int .i64 (L.getD k 0))).setCell ⟨g, k, none⟩ (.int .i64 (L.getD (k + 1) 0))) B g n c l ((L.set (k + 1) (L.getD k 0)).set k (L.getD (k + 1) 0)) := by
  have hl := h.len
  refine ⟨by simp [hl], (swap_perm (by omega)).trans h.prm, ?_, grown_trans h.grw (grown_trans (grown_store u g (k + 1) _) (grown_store _ g k _))⟩
  rcases h.row.2 with ⟨e, _⟩ | ⟨g', cap, cur, e, a1, a2, a3, a4, a5, a6⟩
  · cases e
  · injection e with e1 e2 e3
    injection e1 with e1
    injection e1 with e1
    subst e1
    subst e3
    have b2 := Box.store (Box.store a2 (k + 1) (.int .i64 (L.getD k 0))) k (.int .i64 (L.getD (k + 1) 0))
    refine ⟨by simp [zcs, hl], .inr ⟨g, c, _, rfl, a1, b2, a3, a4, by simpa using a5, ?_⟩⟩
    rw [Array.toList_setIfInBounds, Array.toList_setIfInBounds, List.take_set, List.take_set, a6]
    simp [zcs, List.map_set, encI]
set_option maxRecDepth 100000 in
set_option maxHeartbeats 8000000 in
theorem qrising_at {w : World} {B g n c : Nat} {l : List Int} (h : Rng w w B g n c l l) (hn : n ≤ 1000) :
    Calls Try.prog 56 #[.slice (some ⟨g, 0, none⟩) n c] w fun e w' => e = .returned (.slice (some ⟨g, 0, none⟩) n c) ∧ Rng w w' B g n c l (srt l) := by
  have HH : Hid (Rng w w B g n c l l) := h
  clear h
  go_enter Try.func56, Try.ntmps56
  go_wp2_with fail
  go_loopw [3] (fun v u => ∃ i : Nat, 1 ≤ i ∧ (i ≤ n ∨ i = 1) ∧ v = .int .i64 (i : Int) ∧ Hid (∃ L, Rng w u B g n c l L ∧ OrdI L i)) (fun v _ => n - (iv v).toNat)
  case atStart => exact ⟨1, Nat.le_refl _, .inr rfl, rfl, l, HH.out, fun a b hab hb => by omega⟩
  case round =>
    obtain ⟨i, hi1, hi2, rfl, hrel⟩ := hrel
    by_cases hlt : i < n
    · have hki : (i : Int) < (n : Int) := by omega
      obtain ⟨wz, hwz⟩ : ∃ wz, wz = wr := ⟨_, rfl⟩
      subst hwz
      go_wp2_with fail
      go_loopw [4] (fun v u => ∃ k : Nat, k ≤ i ∧ v = .int .i64 (k : Int) ∧ Hid (∃ L, Rng w u B g n c l L ∧ OrdX L i k)) (fun v _ => (iv v).toNat)
      case atStart =>
        obtain ⟨L, h1, h2⟩ := hrel.out
        exact ⟨i, Nat.le_refl _, rfl, L, h1, h2.start⟩
      case round =>
        obtain ⟨k, hk, rfl, hrel2⟩ := hrel
        obtain ⟨L, hR, hO⟩ := hrel2.out
        cases k with
        | zero =>
          have HI : Hid (∀ q, ∃ L, Rng w (wr.drewN q) B g n c l L ∧ OrdI L (i + 1)) := fun q => ⟨L, hR.drew q, hO.zero⟩
          clear hR hO hrel hrel2
          go_wp2_with fail
          go_quiet (fail)
          go_wp2_with fail
          go_roundw
          case rel => exact ⟨i + 1, by omega, by omega, by simp, HI.out _⟩
          case measure => simp only [iv]; omega
        | succ k =>
          obtain ⟨x1, f1⟩ := hR.cell (k + 1) (by omega)
          obtain ⟨x0, f0⟩ := hR.cell k (by omega)
          have wk : IntKind.i64.wrap ((k : Int) + 1 - 1) = (k : Int) := by rw [IntKind.wrap_i64]; omega
          have wk3 : IntKind.i64.wrap (k : Int) = (k : Int) := by rw [IntKind.wrap_i64]; omega
          have wk5 : IntKind.i64.wrap ((k : Int) + 1) = (k : Int) + 1 := by rw [IntKind.wrap_i64]; omega
          have hk0 : (0 : Int) < (k : Int) + 1 := by omega
          have hk00 : (0 : Int) ≤ (k : Int) := by omega
          have hk01 : (0 : Int) ≤ (k : Int) + 1 := by omega
          have hkn : (k : Int) + 1 < (n : Int) := by omega
          have hkn0 : (k : Int) < (n : Int) := by omega
          have tk : ((k : Int) + 1).toNat = k + 1 := by omega
          by_cases hl2 : L.getD (k + 1) 0 < L.getD k 0
          · have HS : Hid (∀ q, Rng w (wr.drewN q) B g n c l L) := fun q => hR.drew q
            have HO : Hid (OrdX L i (k + 1)) := hO
            have HL2 : Hid (L.getD (k + 1) 0 < L.getD k 0) := hl2
            have hkL : Hid (k + 1 < L.length) := by have := hR.len; unfold Hid; omega
            obtain ⟨p, hp⟩ : ∃ p, p = L.getD (k + 1) 0 := ⟨_, rfl⟩
            obtain ⟨z, hz⟩ : ∃ z, z = L.getD k 0 := ⟨_, rfl⟩
            rw [← hp] at x1 hl2
            rw [← hz] at x0 hl2
            have HPZ : Hid (p = L.getD (k + 1) 0 ∧ z = L.getD k 0) := ⟨hp, hz⟩
            clear hR hO hp hz hrel hrel2
            go_wp2_with fail
            go_quiet (fail)
            go_wp2_with fail
            obtain ⟨wy, hwy⟩ : ∃ wy, wy = wr.drewN nq := ⟨_, rfl⟩
            have hRy := HS.out nq
            rw [← hwy] at hRy ⊢
            clear hwy x1 x0 f1 f0
            obtain ⟨x1, f1⟩ := hRy.cell (k + 1) (by omega)
            obtain ⟨x0, f0⟩ := hRy.cell k (by omega)
            rw [← HPZ.out.1] at x1
            rw [← HPZ.out.2] at x0
            have HCS : Hid (∀ q ∈ [((⟨g, k, none⟩ : Addr), (.int .i64 z : Value)), (⟨g, k + 1, none⟩, .int .i64 p)], wy.drew.cell? q.1 = some q.2) := fun q hq => by
              simp at hq
              rcases hq with rfl | rfl
              · exact x0
              · exact x1
            have y1 : wy.drew.cell? ⟨g, k + 1, none⟩ = some (.int .i64 p) := x1
            have v1 : wy.drew.frozen? ⟨g, k + 1, none⟩ = false := f1
            have HD : Hid (Rng w wy.drew B g n c l L) := ⟨hRy.len, hRy.prm, ownsRow_same hRy.row (fun _ _ => rfl), ⟨hRy.grw.os, hRy.grw.tape, hRy.grw.output, hRy.grw.size, hRy.grw.block⟩⟩
            obtain ⟨⟨y0, v0⟩, HST⟩ : ((wy.drew.setCell ⟨g, k + 1, none⟩ (.int .i64 z)).cell? ⟨g, k, none⟩ = some (.int .i64 z) ∧ (wy.drew.setCell ⟨g, k + 1, none⟩ (.int .i64 z)).frozen? ⟨g, k, none⟩ = false) ∧ Hid (Rng w ((wy.drew.setCell ⟨g, k + 1, none⟩ (.int .i64 z)).setCell ⟨g, k, none⟩ (.int .i64 p)) B g n c l ((L.set (k + 1) (L.getD k 0)).set k (L.getD (k + 1) 0)) ∧ OrdX ((L.set (k + 1) (L.getD k 0)).set k (L.getD (k + 1) 0)) i k) := by
              have q := HD.out.store k (by omega)
              rw [← HPZ.out.1, ← HPZ.out.2] at q
              refine ⟨?_, ?_⟩
              · rcases HD.out.row.2 with ⟨e, _⟩ | ⟨g', cap, cur, e, a1, a2, _⟩
                · cases e
                · injection e with e1 e2 e3
                  injection e1 with e1
                  injection e1 with e1
                  subst e1
                  have b := Box.store a2 (k + 1) (.int .i64 z)
                  refine ⟨?_, b.frozen k⟩
                  rw [Box.cell b, Array.getElem?_setIfInBounds_ne (by omega), ← Box.cell a2]
                  exact x0
              · refine ⟨by rw [← HPZ.out.1, ← HPZ.out.2]; exact q, HO.out.swap hkL.out hk HL2.out⟩
            have y0' : (wy.setCell ⟨g, k + 1, none⟩ (.int .i64 z)).cell? ⟨g, k, none⟩ = some (.int .i64 z) := y0
            have v0' : (wy.setCell ⟨g, k + 1, none⟩ (.int .i64 z)).frozen? ⟨g, k, none⟩ = false := v0
            have y0'' : (wy.setCell ⟨g, k + 1, none⟩ (.int .i64 z)).drew.cell? ⟨g, k, none⟩ = some (.int .i64 z) := y0
            have v0'' : (wy.setCell ⟨g, k + 1, none⟩ (.int .i64 z)).drew.frozen? ⟨g, k, none⟩ = false := v0
            clear hRy x1 x0 f1 f0 HS HO HD
            refine wp_region_any (by kernel_rfl) ?_
            refine wpAny_take (i := 0) (v := ?_) rfl (by kernel_rfl) (by kernel_rfl) (by kernel_rfl) (fun _ _ _ h => h) (Or.inl ⟨by rfl, ?_⟩) ?_
            rotate_left
            · intro u
              go_simp
              with_reducible rfl
            simp only [Act.put, List.setIfInBounds_toArray, List.set_cons_zero, List.set_cons_succ, List.getElem_toArray, List.getElem_cons_zero]
            refine wpAny_take (i := 1) (v := ?_) rfl (by kernel_rfl) (by kernel_rfl) (by kernel_rfl) (fun _ _ _ h => h) (Or.inl ⟨by rfl, ?_⟩) ?_
            rotate_left
            · intro u
              go_simp
              with_reducible rfl
            simp only [Act.put, List.setIfInBounds_toArray, List.set_cons_zero, List.set_cons_succ, List.getElem_toArray, List.getElem_cons_zero, List.getElem_cons_succ]
            refine wpAny_take (i := 2) (v := ?_) rfl (by kernel_rfl) (by kernel_rfl) (by kernel_rfl) (fun _ _ _ h => h) (Or.inl ⟨by rfl, ?_⟩) ?_
            rotate_left
            · intro u
              go_simp
              with_reducible rfl
            simp only [Act.put, List.setIfInBounds_toArray, List.set_cons_zero, List.set_cons_succ, List.getElem_toArray, List.getElem_cons_zero, List.getElem_cons_succ]
            refine wpAny_take (i := 3) (v := ?_) rfl (by kernel_rfl) (by kernel_rfl) (by kernel_rfl) (fun _ _ _ h => h) (Or.inl ⟨by rfl, ?_⟩) ?_
            rotate_left
            · intro u
              go_simp
              with_reducible rfl
            simp only [Act.put, List.setIfInBounds_toArray, List.set_cons_zero, List.set_cons_succ, List.getElem_toArray, List.getElem_cons_zero, List.getElem_cons_succ]
            refine wpAny_take (i := 4) (v := ?_) rfl (by kernel_rfl) (by kernel_rfl) (by kernel_rfl) (fun _ _ _ h => h) (Or.inl ⟨by rfl, ?_⟩) ?_
            rotate_left
            · intro u
              go_simp
              with_reducible rfl
            simp only [Act.put, List.setIfInBounds_toArray, List.set_cons_zero, List.set_cons_succ, List.getElem_toArray, List.getElem_cons_zero, List.getElem_cons_succ]
            refine wpAny_take (i := 5) (v := ?_) rfl (by kernel_rfl) (by kernel_rfl) (by kernel_rfl) (fun _ _ _ h => h) (Or.inl ⟨by rfl, ?_⟩) ?_
            rotate_left
            · intro u
              go_simp
              with_reducible rfl
            simp only [Act.put, List.setIfInBounds_toArray, List.set_cons_zero, List.set_cons_succ, List.getElem_toArray, List.getElem_cons_zero, List.getElem_cons_succ]
            refine wpAny_take (i := 6) (v := ?_) rfl (by kernel_rfl) (by kernel_rfl) (by kernel_rfl) (fun _ _ _ h => h) (Or.inl ⟨by rfl, ?_⟩) ?_
            rotate_left
            · intro u
              go_simp
              with_reducible rfl
            simp only [Act.put, List.setIfInBounds_toArray, List.set_cons_zero, List.set_cons_succ, List.getElem_toArray, List.getElem_cons_zero, List.getElem_cons_succ]
            refine wpAny_take (i := 7) (v := ?_) rfl (by kernel_rfl) (by kernel_rfl) (by kernel_rfl) (fun _ _ _ h => h) (Or.inl ⟨by rfl, ?_⟩) ?_
            rotate_left
            · intro u
              go_simp
              with_reducible rfl
            simp only [Act.put, List.setIfInBounds_toArray, List.set_cons_zero, List.set_cons_succ, List.getElem_toArray, List.getElem_cons_zero, List.getElem_cons_succ]
            refine wpAny_take (i := 8) (v := ?_) rfl (by kernel_rfl) (by kernel_rfl) (by kernel_rfl) (fun _ _ _ h => h) (Or.inl ⟨by rfl, ?_⟩) ?_
            rotate_left
            · intro u
              go_simp
              with_reducible rfl
            simp only [Act.put, List.setIfInBounds_toArray, List.set_cons_zero, List.set_cons_succ, List.getElem_toArray, List.getElem_cons_zero, List.getElem_cons_succ]
            refine wpAny_take (i := 10) (v := ?_) rfl (by kernel_rfl) (by kernel_rfl) (by kernel_rfl) (fun _ _ _ h => h) (Or.inl ⟨by rfl, ?_⟩) ?_
            rotate_left
            · intro u
              go_simp
              with_reducible rfl
            simp only [Act.put, List.setIfInBounds_toArray, List.set_cons_zero, List.set_cons_succ, List.getElem_toArray, List.getElem_cons_zero, List.getElem_cons_succ]
            refine wpAny_take (i := 11) (v := ?_) rfl (by kernel_rfl) (by kernel_rfl) (by kernel_rfl) (fun _ _ _ h => h) (Or.inl ⟨by rfl, ?_⟩) ?_
            rotate_left
            · intro u
              go_simp
              with_reducible rfl
            simp only [Act.put, List.setIfInBounds_toArray, List.set_cons_zero, List.set_cons_succ, List.getElem_toArray, List.getElem_cons_zero, List.getElem_cons_succ]
            refine wpAny_take (i := 12) (v := ?_) rfl (by kernel_rfl) (by kernel_rfl) (by kernel_rfl) (fun _ _ _ h => h) (Or.inl ⟨by rfl, ?_⟩) ?_
            rotate_left
            · intro u
              go_simp
              with_reducible rfl
            simp only [Act.put, List.setIfInBounds_toArray, List.set_cons_zero, List.set_cons_succ, List.getElem_toArray, List.getElem_cons_zero, List.getElem_cons_succ]
            refine wpAny_of_E (C := SlotsCells [(36, .pointer (some ⟨g, k, none⟩)), (40, .pointer (some ⟨g, k + 1, none⟩))] [(⟨g, k, none⟩, .int .i64 z), (⟨g, k + 1, none⟩, .int .i64 p)]) (late := [15, 17]) _ _ _ _ ?_
            refine wpAnyE_take (i := 9) (v := .int .i64 z) rfl (by kernel_rfl) (by kernel_rfl) (by kernel_rfl) (by kernel_rfl) (by kernel_rfl) (by kernel_rfl) (fun _ _ _ h => h) ?_ (fun fr u h => (SlotsCells.put 37 _ (by rfl)).1 h) (fun fr u h => (SlotsCells.put 37 _ (by rfl)).2 h) ?_ ?_
            · intro fr u hh
              obtain ⟨e1, e2⟩ := hh.load (s := 36) (p := ⟨g, k, none⟩) (v := .int .i64 z) (by simp) (by simp)
              exact ⟨rfl, by simp [execOp, e1, go_sem, e2]⟩
            · exact ⟨fun q hq => by simp at hq; rcases hq with rfl | rfl <;> rfl, HCS.out⟩
            simp only [Act.put, List.setIfInBounds_toArray, List.set_cons_zero, List.set_cons_succ, List.getElem_toArray, List.getElem_cons_zero, List.getElem_cons_succ]
            refine wpAnyE_take (i := 13) (v := .int .i64 p) rfl (by kernel_rfl) (by kernel_rfl) (by kernel_rfl) (by kernel_rfl) (by kernel_rfl) (by kernel_rfl) (fun _ _ _ h => h) ?_ (fun fr u h => (SlotsCells.put 41 _ (by rfl)).1 h) (fun fr u h => (SlotsCells.put 41 _ (by rfl)).2 h) ?_ ?_
            · intro fr u hh
              obtain ⟨e1, e2⟩ := hh.load (s := 40) (p := ⟨g, k + 1, none⟩) (v := .int .i64 p) (by simp) (by simp)
              exact ⟨rfl, by simp [execOp, e1, go_sem, e2]⟩
            · exact ⟨fun q hq => by simp at hq; rcases hq with rfl | rfl <;> rfl, HCS.out⟩
            simp only [Act.put, List.setIfInBounds_toArray, List.set_cons_zero, List.set_cons_succ, List.getElem_toArray, List.getElem_cons_zero, List.getElem_cons_succ]
            refine wpAnyE_pure (i := 14) (v := ?_) rfl (by kernel_rfl) (by kernel_rfl) (by kernel_rfl) (by kernel_rfl) (fun _ _ _ h => h) (fun fr u h => (SlotsCells.put 42 _ (by rfl)).1 h) (fun fr u h => (SlotsCells.put 42 _ (by rfl)).2 h) (.inr ⟨fun q hq => by simp at hq; rcases hq with rfl | rfl <;> rfl, HCS.out⟩) (Or.inl ⟨by rfl, ?_⟩) ?_
            rotate_left
            · intro u
              go_simp
              with_reducible rfl
            simp only [Act.put, List.setIfInBounds_toArray, List.set_cons_zero, List.set_cons_succ, List.getElem_toArray, List.getElem_cons_zero, List.getElem_cons_succ]
            refine wpAnyE_some (rs := [15]) (by kernel_rfl) (by simp) (fun i hi => ?_)
            simp only [List.mem_cons, List.not_mem_nil, or_false] at hi
            subst hi
            refine wpOp_step rfl (fun Kc hKc => ?_)
            go_simp
            refine hKc _ _ ⟨.inr (.inl rfl), ?_⟩
            clear hKc Kc
            refine wpAnyE_some (rs := [16]) (by kernel_rfl) (by simp) (fun i hi => ?_)
            simp only [List.mem_cons, List.not_mem_nil, or_false] at hi
            subst hi
            refine wpOp_step rfl (fun Kc hKc => ?_)
            go_simp
            refine hKc _ _ ⟨.inl (by kernel_rfl), ?_⟩
            clear hKc Kc
            refine wpAnyE_some (rs := [17]) (by kernel_rfl) (by simp) (fun i hi => ?_)
            simp only [List.mem_cons, List.not_mem_nil, or_false] at hi
            subst hi
            refine wpOp_step rfl (fun Kc hKc => ?_)
            go_simp
            refine hKc _ _ ⟨.inr (.inl rfl), ?_⟩
            clear hKc Kc
            refine wpAnyE_done (by kernel_rfl) ?_ _
            go_wp2_with fail
            go_roundw
            case rel => exact ⟨k, by omega, by simp, _, HST.out.1, HST.out.2⟩
            case measure => simp only [iv]; omega
          · have hO2 : Hid (∀ q, ∃ L, Rng w (wr.drewN q) B g n c l L ∧ OrdI L (i + 1)) := fun q => ⟨L, hR.drew q, hO.stop (by omega)⟩
            generalize L.getD (k + 1) 0 = p at *
            generalize L.getD k 0 = z at *
            clear hR hO hrel hrel2
            go_wp2_with fail
            go_quiet (fail)
            go_wp2_with fail
            go_roundw
            case rel => exact ⟨i + 1, by omega, by omega, by simp, hO2.out _⟩
            case measure => simp only [iv]; omega
    · have hki : ¬ (i : Int) < (n : Int) := by omega
      obtain ⟨L, hR, hO⟩ := hrel.out
      have hln := hR.len
      have hs : srt l = L := OrdI.srt (fun a b hab hb => hO a b hab (by omega)) hR.prm
      have HF : Hid (Rng w wr B g n c l (srt l)) := by unfold Hid; rw [hs]; exact hR
      clear hR hO hs hrel hln
      go_wp2_with fail
      go_ret
      exact ⟨rfl, HF.out⟩
end Go.Proofs.Ytdneikfocefnfaa
