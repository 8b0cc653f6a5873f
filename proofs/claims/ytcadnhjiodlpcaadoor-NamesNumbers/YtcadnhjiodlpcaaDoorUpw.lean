/-
  The path above; whether a path lies within another one.
-/
import Derived.Test.YtcadnhjiodlpcaaDoorJoi
namespace Go.Proofs.YtcadnhjiodlpcaaDoor
open Go.RowKit
/-- Two texts that were told, and an error. -/
def RU (w : World) (s t : Tx) (e : Nat) (r : Ending) (w' : World) : Prop := r = .returned (.tuple #[.string (bs s), .string (bs t), .int .i64 (e : Int)]) ∧ Below w.heap.size w w'
set_option maxRecDepth 100000 in
theorem up_at (x : Tx) (w : World) (hm : MaxL w) : Calls Tryd.prog 15 #[.string (bs x)] w (RU w (upP x).1 (upP x).2.1 (upP x).2.2) := by
  have c := split_at x w hm
  have hg := fun h => good_of_split (s := x) h
  have he := splitP_err x
  have HE : Hid (upP x = if (splitP x).2 = 0 then (if (splitP x).1 = [] then ([], [], 211) else ((joinP (splitP x).1.dropLast).1, (splitP x).1.getLastD [], 0)) else ([], [], (splitP x).2)) := hid rfl
  generalize splitP x = k at *
  generalize upP x = q at *
  obtain ⟨l, n⟩ := k
  clear hm
  by_cases hn : n = 0
  · subst hn
    have hl := (hg rfl).1.2.1
    replace hl : l.length ≤ 16 := hl
    clear hg he
    by_cases h0 : l = []
    · have e : q = ([], [], 211) := by have := HE.out; simpa [h0] using this
      subst h0
      rw [e]
      clear HE e
      go_enter Tryd.func15, Tryd.ntmps15
      go_wp2_with fail
      refine c.mono ?_
      rintro e w1 ⟨a, d, rfl, ht, _, _, hb⟩
      have HB := hid hb
      clear ht hb
      go_wp2_with fail
      go_ret3
      exact ⟨rfl, HB.out⟩
    · obtain ⟨m, hm⟩ : ∃ m, l.length = m + 1 := ⟨l.length - 1, by have := List.length_pos_iff.2 h0; omega⟩
      have e : q = ((joinP l.dropLast).1, l.getLastD [], 0) := by have := HE.out; simpa [h0] using this
      have hlast : l.getLastD [] = l[m]'(by omega) := by
        have e1 : l.length - 1 = m := by omega
        rw [List.getLastD_eq_getLast?, List.getLast?_eq_getElem?, e1, List.getElem?_eq_getElem (by omega)]
        rfl
      rw [e]
      have c2 := fun u a c (h : Ts u a l) (hc : m ≤ c) => join_at (w := u) (a := a) (c := c) (xs := l.dropLast) (by rw [List.dropLast_eq_take]; exact h.take _) (by simp; omega) (by simp; omega)
      have hdl : l.dropLast.length = m := by simp; omega
      rw [hdl] at c2
      have HQ : Hid (∀ u a, Ts u a l → ∃ b o, a = some ⟨b, o, none⟩ ∧ u.cell? ⟨b, o + m, none⟩ = some (.string (bs (l.getLastD [])))) := by
        refine hid (fun u a h => ?_)
        obtain ⟨b, o, e, _, hc⟩ := h (by omega)
        exact ⟨b, o, e, by rw [hlast]; exact hc m (by omega)⟩
      have hm16 : m + 1 ≤ 16 := by omega
      have HT : Hid (∀ u u' a, Ts u a l → Below u.heap.size u u' → Ts u' a l) := hid (fun u u' a h hb => h.below hb (Nat.le_refl _))
      clear HE e hl hlast hdl h0
      generalize l.getLastD [] = z at *
      generalize joinP l.dropLast = jj at *
      have HTs : Hid (∀ u a, (Ts u a l → Ts u a l)) := hid (fun _ _ h => h)
      unfold RS at c
      simp only [hm] at c
      generalize l = l2 at *
      have hsub : IntKind.i64.wrap (((m + 1 : Nat) : Int) - 1) = (m : Int) := by rw [IntKind.wrap_i64]; omega
      clear hm
      go_enter Tryd.func15, Tryd.ntmps15
      go_wp2_with fail
      refine c.mono ?_
      rintro e w1 ⟨a, d, rfl, ht, h1, h2, hb⟩
      have HB := hid hb
      obtain ⟨b, o, rfl, hcell⟩ := HQ.out w1 a ht
      have c3 := fun c hc => c2 w1 _ c ht hc
      have hbl : b < w1.heap.size := World.block_lt_of_cell? _ _ hcell
      have hwr : (m : Int) < ((m + 1 : Nat) : Int) := by omega
      clear c2 HQ hb
      go_wp2_with fail
      refine (c3 _ (by omega)).mono ?_
      rintro e w2 ⟨rfl, hb2⟩
      have cc := (hb2.cell (p := ⟨b, o + m, none⟩) hbl).trans hcell
      have HB2 := hid (HB.out.trans (hb2.mono HB.out.size))
      have HD : Hid (∀ m, Below w.heap.size w (w2.drewN m)) := fun m => below_drewN HB2.out m
      clear c3 hcell hb2 HB HT HTs ht
      go_wp2_with fail
      go_quiet (fail)
      go_wp2_with fail
      go_ret3
      exact ⟨rfl, HD.out _⟩
  · have e : q = ([], [], n) := by have := HE.out; simpa [hn] using this
    rw [e]
    have hk : ¬ (n : Int) = 0 := by omega
    obtain rfl : l = [] := by
      rcases he with h | h
      · exact absurd h hn
      · exact h.1
    clear HE e he hg hn
    go_enter Tryd.func15, Tryd.ntmps15
    go_wp2_with fail
    refine c.mono ?_
    rintro e w1 ⟨a, d, rfl, ht, _, _, hb⟩
    have HB := hid hb
    clear ht hb
    go_wp2_with fail
    go_ret3
    exact ⟨rfl, HB.out⟩
theorem equal_at {u : World} {a b : Option Addr} {xs ys : List Tx} {n c d : Nat} (hx : xs.length = n) (hy : ys.length = n) (hn : n ≤ 1000) (h : Ts u a xs) (k : Ts u b ys) :
    Calls Tryd.prog 25 #[.slice a n c, .slice b n d] u fun e u' => e = .returned (.bool (decide (xs = ys))) ∧ Below u.heap.size u u' := by
  by_cases h0 : n = 0
  · subst h0
    obtain rfl := List.eq_nil_of_length_eq_zero hx
    obtain rfl := List.eq_nil_of_length_eq_zero hy
    refine (Tryd.slices_Equal_string_empty a b c 0 d u (by omega)).mono (fun e u' h => ⟨h.1, h.2 ▸ Below.refl _ _⟩)
  · obtain ⟨p, o, rfl, _, hc⟩ := h (by omega)
    obtain ⟨p', o', rfl, _, hc'⟩ := k (by omega)
    refine (Tryd.slices_Equal_string p o n c p' o' n d (xs.map bs) (ys.map bs) u (by simp; omega) (by simp; omega) (by omega) (by omega) (fun j hj => ?_) (fun j hj => ?_)).mono ?_
    · rw [List.length_map] at hj
      rw [hc j hj]
      simp [hj]
    · rw [List.length_map] at hj
      rw [hc' j hj]
      simp [hj]
    · rintro e u' ⟨rfl, q, rfl⟩
      refine ⟨?_, below_drewN (Below.refl _ _) q⟩
      have e1 : (xs.map bs).take n = xs.map bs := List.take_of_length_le (by simp; omega)
      have e2 : (ys.map bs).take n = ys.map bs := List.take_of_length_le (by simp; omega)
      rw [e1, e2]
      have : decide (xs.map bs = ys.map bs) = decide (xs = ys) := by
        rw [Bool.eq_iff_iff]
        simp only [decide_eq_true_eq]
        constructor
        · intro h
          have := congrArg (List.map (fun x : ByteArray => x.data.toList)) h
          rw [List.map_map, List.map_map] at this
          have e : ((fun x : ByteArray => x.data.toList) ∘ bs) = id := rfl
          rwa [e, List.map_id, List.map_id] at this
        · rintro rfl; rfl
      rw [this]
theorem pre_take (l m : List Tx) : m.isPrefixOf l = decide (l.take m.length = m) := by
  rw [Bool.eq_iff_iff, List.isPrefixOf_iff_prefix, decide_eq_true_eq, List.prefix_iff_eq_take]
  exact ⟨Eq.symm, Eq.symm⟩
set_option maxRecDepth 100000 in
theorem within_at (x y : Tx) (w : World) (hm : MaxL w) : Calls Tryd.prog 19 #[.string (bs x), .string (bs y)] w fun e w' => e = .returned (.bool (withinP x y)) ∧ Below w.heap.size w w' := by
  have c := split_at x w hm
  have c2 := fun u (hu : Below w.heap.size w u) => split_at y u (hm.below hu)
  have hg := fun h => good_of_split (s := x) h
  have hg2 := fun h => good_of_split (s := y) h
  have he := splitP_err x
  have he2 := splitP_err y
  have HE : Hid (withinP x y = (decide ((splitP x).2 = 0) && decide ((splitP y).2 = 0) && (splitP y).1.isPrefixOf (splitP x).1)) := hid rfl
  generalize splitP x = k at *
  generalize splitP y = k2 at *
  generalize withinP x y = q at *
  obtain ⟨l, n⟩ := k
  obtain ⟨l2, n2⟩ := k2
  clear hm
  by_cases hn : n = 0
  · subst hn
    have hl := (hg rfl).1.2.1
    replace hl : l.length ≤ 16 := hl
    clear hg he
    by_cases hn2 : n2 = 0
    · subst hn2
      have hl2 := (hg2 rfl).1.2.1
      replace hl2 : l2.length ≤ 16 := hl2
      clear hg2 he2
      by_cases hle : l2.length ≤ l.length
      · have e : q = decide (l.take l2.length = l2) := by have := HE.out; rw [pre_take] at this; simpa using this
        rw [e]
        have hk : (l2.length : Int) ≤ (l.length : Int) := by omega
        have HQ : Hid (∀ u a b c d, Ts u a l → Ts u b l2 → Calls Tryd.prog 25 #[.slice a l2.length c, .slice b l2.length d] u fun e u' => e = .returned (.bool (decide (l.take l2.length = l2))) ∧ Below u.heap.size u u') := by
          refine hid (fun u a b c d h k => ?_)
          exact equal_at (by simp; omega) rfl (by omega) (h.take _) k
        have hle2 : l2.length ≤ l.length := hle
        clear HE e hle
        generalize decide (l.take l2.length = l2) = z at *
        go_enter Tryd.func19, Tryd.ntmps19
        go_wp2_with fail
        refine c.mono ?_
        rintro e w1 ⟨a, d, rfl, ht, h1, h2, hb⟩
        have c3 := c2 w1 hb
        have HB := hid (And.intro ht hb)
        clear c2 ht hb
        go_wp2_with fail
        refine c3.mono ?_
        rintro e w2 ⟨a2, d2, rfl, ht2, h3, h4, hb2⟩
        have c4 := HQ.out w2 a a2 d d2 (HB.out.1.below hb2 (Nat.le_refl _)) ht2
        have HB2 := hid (HB.out.2.trans (hb2.mono HB.out.2.size))
        have hcap : l2.length ≤ d := by omega
        clear HQ ht2 hb2 c3 HB
        go_wp2_with fail
        refine c4.mono ?_
        rintro e w3 ⟨rfl, hb3⟩
        have HB3 := hid (HB2.out.trans (hb3.mono HB2.out.size))
        clear c4 hb3 HB2
        go_wp2_with fail
        go_ret
        exact ⟨rfl, HB3.out⟩
      · have e : q = false := by
          have := HE.out
          have h' : l2.isPrefixOf l = false := by
            apply Bool.eq_false_iff.2
            intro h
            exact hle (List.IsPrefix.length_le (List.isPrefixOf_iff_prefix.1 h))
          simpa [h'] using this
        rw [e]
        have hk : ¬ (l2.length : Int) ≤ (l.length : Int) := by omega
        clear HE e hle
        go_enter Tryd.func19, Tryd.ntmps19
        go_wp2_with fail
        refine c.mono ?_
        rintro e w1 ⟨a, d, rfl, ht, h1, h2, hb⟩
        have c3 := c2 w1 hb
        have HB := hid hb
        clear c2 ht hb
        go_wp2_with fail
        refine c3.mono ?_
        rintro e w2 ⟨a2, d2, rfl, ht2, h3, h4, hb2⟩
        have HB2 := hid (HB.out.trans (hb2.mono HB.out.size))
        clear ht2 hb2 c3 HB
        go_wp2_with fail
        go_ret
        exact ⟨rfl, HB2.out⟩
    · have e : q = false := by have := HE.out; simpa [hn2] using this
      rw [e]
      have hk : ¬ (n2 : Int) = 0 := by omega
      clear HE e he2 hg2 hn2
      go_enter Tryd.func19, Tryd.ntmps19
      go_wp2_with fail
      refine c.mono ?_
      rintro e w1 ⟨a, d, rfl, ht, h1, h2, hb⟩
      have c3 := c2 w1 hb
      have HB := hid hb
      clear c2 ht hb
      go_wp2_with fail
      refine c3.mono ?_
      rintro e w2 ⟨a2, d2, rfl, ht2, h3, h4, hb2⟩
      have HB2 := hid (HB.out.trans (hb2.mono HB.out.size))
      clear ht2 hb2 c3 HB
      go_wp2_with fail
      go_ret
      exact ⟨rfl, HB2.out⟩
  · have e : q = false := by have := HE.out; simpa [hn] using this
    rw [e]
    have hk : ¬ (n : Int) = 0 := by omega
    clear HE e he hg hn c2 hg2 he2
    go_enter Tryd.func19, Tryd.ntmps19
    go_wp2_with fail
    refine c.mono ?_
    rintro e w1 ⟨a, d, rfl, ht, h1, h2, hb⟩
    have HB := hid hb
    clear ht hb
    go_wp2_with fail
    go_ret
    exact ⟨rfl, HB.out⟩
end Go.Proofs.YtcadnhjiodlpcaaDoor
