/-
  The document's own Up and Within.
-/
import Derived.Test.YtcadnhjiodlpcaaDoorRsp
import Derived.Test.YtcadnhjiodlpcaaDoorRjo
namespace Go.Proofs.YtcadnhjiodlpcaaDoor
open Go.RowKit
set_option maxRecDepth 100000 in
theorem rup_at (x : Tx) (w : World) : Calls Tryd.prog 16 #[.string (bs x)] w (RU w (upP x).1 (upP x).2.1 (upP x).2.2) := by
  have c := rsplit_at x w
  have hg := fun h => good_of_split (s := x) h
  have he := splitP_err x
  have HE : Hid (upP x = if (splitP x).2 = 0 then (if (splitP x).1 = [] then ([], [], 211) else ((joinP (splitP x).1.dropLast).1, (splitP x).1.getLastD [], 0)) else ([], [], (splitP x).2)) := hid rfl
  generalize splitP x = k at *
  generalize upP x = q at *
  obtain ⟨l, n⟩ := k
  by_cases hn : n = 0
  · subst hn
    have hl := (hg rfl).1.2.1
    replace hl : l.length ≤ 16 := hl
    have hln : ∀ p ∈ l, p.length ≤ 9223372036854775807 := fun p hp => by
      have := (isName_pos ((hg rfl).1.1 p hp)).2
      omega
    clear hg he
    by_cases h0 : l = []
    · have e : q = ([], [], 211) := by have := HE.out; simpa [h0] using this
      subst h0
      rw [e]
      clear HE e
      go_enter Tryd.func16, Tryd.ntmps16
      go_wp2_with fail
      refine c.mono ?_
      rintro e w1 ⟨a, d, rfl, ht, _, hb⟩
      have HB := hid hb
      clear ht hb
      go_wp2_with fail
      go_ret3
      exact ⟨rfl, HB.out⟩
    · obtain ⟨m, hm⟩ : ∃ m, l.length = m + 1 := ⟨l.length - 1, by have := List.length_pos_iff.2 h0; omega⟩
      have e : q = ((joinP l.dropLast).1, l.getLastD [], 0) := by have := HE.out; simpa [h0] using this
      have hlast : l.getLastD [] = l[m]'(by omega) := by
        have e1 : l.length - 1 = m := by omega
        rw [List.getLastD_eq_getLast?, List.getLast?_eq_getElem?, e1, List.getElem?_eq_getElem (by omega)]
        rfl
      rw [e]
      have c2 := fun u a c (h : Ts u a l) => rjoin_at (w := u) (a := a) (c := c) (xs := l.dropLast) (by rw [List.dropLast_eq_take]; exact h.take _) (by simp; omega) (fun p hp => hln p (List.dropLast_subset _ hp))
      have hdl : l.dropLast.length = m := by simp; omega
      rw [hdl] at c2
      have HQ : Hid (∀ u a, Ts u a l → ∃ b o, a = some ⟨b, o, none⟩ ∧ u.cell? ⟨b, o + m, none⟩ = some (.string (bs (l.getLastD [])))) := by
        refine hid (fun u a h => ?_)
        obtain ⟨b, o, e, _, hc⟩ := h (by omega)
        exact ⟨b, o, e, by rw [hlast]; exact hc m (by omega)⟩
      have hm16 : m + 1 ≤ 16 := by omega
      clear HE e hl hlast hdl h0 hln
      generalize l.getLastD [] = z at *
      generalize joinP l.dropLast = jj at *
      unfold RT at c
      simp only [hm] at c
      have hsub : IntKind.i64.wrap (((m + 1 : Nat) : Int) - 1) = (m : Int) := by rw [IntKind.wrap_i64]; omega
      clear hm
      go_enter Tryd.func16, Tryd.ntmps16
      go_wp2_with fail
      refine c.mono ?_
      rintro e w1 ⟨a, d, rfl, ht, h1, hb⟩
      have HB := hid hb
      obtain ⟨b, o, rfl, hcell⟩ := HQ.out w1 a ht
      have c3 := fun c => c2 w1 _ c ht
      have hwr : (m : Int) < ((m + 1 : Nat) : Int) := by omega
      clear c2 HQ hb
      go_wp2_with fail
      refine (c3 _).mono ?_
      rintro e w2 ⟨rfl, rfl⟩
      have HD : Hid (∀ m, Below w.heap.size w (World.drewN _ m)) := fun m => below_drewN HB.out m
      clear c3 HB ht
      go_wp2_with fail
      go_quiet (fail)
      go_wp2_with fail
      go_ret3
      exact ⟨rfl, HD.out _⟩
  · have e : q = ([], [], n) := by have := HE.out; simpa [hn] using this
    rw [e]
    have hk : ¬ (n : Int) = 0 := by omega
    obtain rfl : l = [] := by
      rcases he with h | h
      · exact absurd h hn
      · exact h.1
    clear HE e he hg hn
    go_enter Tryd.func16, Tryd.ntmps16
    go_wp2_with fail
    refine c.mono ?_
    rintro e w1 ⟨a, d, rfl, ht, _, hb⟩
    have HB := hid hb
    clear ht hb
    go_wp2_with fail
    go_ret3
    exact ⟨rfl, HB.out⟩
set_option maxRecDepth 100000 in
set_option maxHeartbeats 1000000 in
theorem rwithin_at (x y : Tx) (w : World) : Calls Tryd.prog 20 #[.string (bs x), .string (bs y)] w fun e w' => e = .returned (.bool (withinP x y)) ∧ Below w.heap.size w w' := by
  have c := rsplit_at x w
  have c2 := fun u => rsplit_at y u
  have hg := fun h => good_of_split (s := x) h
  have hg2 := fun h => good_of_split (s := y) h
  have he := splitP_err x
  have he2 := splitP_err y
  have HE : Hid (withinP x y = (decide ((splitP x).2 = 0) && decide ((splitP y).2 = 0) && (splitP y).1.isPrefixOf (splitP x).1)) := hid rfl
  generalize splitP x = k at *
  generalize splitP y = k2 at *
  generalize withinP x y = q at *
  obtain ⟨l, n⟩ := k
  obtain ⟨l2, n2⟩ := k2
  by_cases hn : n = 0
  · subst hn
    have hl := (hg rfl).1.2.1
    replace hl : l.length ≤ 16 := hl
    clear hg he
    by_cases hn2 : n2 = 0
    · subst hn2
      have hl2 := (hg2 rfl).1.2.1
      replace hl2 : l2.length ≤ 16 := hl2
      clear hg2 he2
      by_cases hle : l2.length ≤ l.length
      · have e : q = decide (l.take l2.length = l2) := by have := HE.out; rw [pre_take] at this; simpa using this
        have hk : ¬ (l.length : Int) < (l2.length : Int) := by omega
        have HQ := hid e
        have hle2 : l2.length ≤ l.length := hle
        clear HE e hle
        go_enter Tryd.func20, Tryd.ntmps20
        go_wp2_with fail
        refine c.mono ?_
        rintro e w1 ⟨a, d, rfl, ht, h1, hb⟩
        have c3 := c2 w1
        have HB := hid (And.intro ht hb)
        clear c2 ht hb
        go_wp2_with fail
        refine c3.mono ?_
        rintro e w2 ⟨a2, d2, rfl, ht2, h3, hb2⟩
        have HT := hid (And.intro (HB.out.1.below hb2 (Nat.le_refl _)) ht2)
        have HB2 := hid (HB.out.2.trans (hb2.mono HB.out.2.size))
        clear ht2 hb2 c3 HB
        go_wp2_with fail
        go_loopw [9] (fun v u => ∃ i : Nat, i ≤ l2.length ∧ v = .int .i64 (i : Int) ∧ Hid (l.take i = l2.take i ∧ Below w.heap.size w u ∧ Ts u a l ∧ Ts u a2 l2)) (fun v _ => l2.length - (iof v).toNat)
        case atStart => exact ⟨0, by omega, by simp, by simp, HB2.out, HT.out⟩
        case round =>
          obtain ⟨i, hi, rfl, hrel⟩ := hrel
          by_cases hlt : i < l2.length
          · have hxi : i < l.length := by omega
            obtain ⟨p, o, rfl, hp, hc⟩ := hrel.out.2.2.1 (by omega)
            obtain ⟨p', o', rfl, hp', hc'⟩ := hrel.out.2.2.2 (by omega)
            have cc := hc i hxi
            have cc' := hc' i hlt
            clear hc hc' hp hp'
            have hlt' : (i : Int) < (l2.length : Int) := by omega
            have hxi' : (i : Int) < (l.length : Int) := by omega
            have wr1 : IntKind.i64.wrap ((i : Int) + 1) = ((i + 1 : Nat) : Int) := by rw [IntKind.wrap_i64]; omega
            have HX : Hid (l[i]'hxi = l2[i]'hlt → l.take (i + 1) = l2.take (i + 1)) := by
              refine hid (fun e => ?_)
              rw [List.take_succ_eq_append_getElem hxi, List.take_succ_eq_append_getElem hlt, hrel.out.1, e]
            have HY : Hid (l[i]'hxi ≠ l2[i]'hlt → l.take l2.length ≠ l2) := by
              refine hid (fun e h => e ?_)
              have h2 := congrArg (fun m => m[i]?) h
              simp only [List.getElem?_take, if_pos hlt, List.getElem?_eq_getElem hxi, List.getElem?_eq_getElem hlt] at h2
              exact Option.some.inj h2
            generalize l[i]'hxi = x1 at *
            generalize l2[i]'hlt = y1 at *
            have lx := bs_toList x1
            have ly := bs_toList y1
            have HD : Hid (∀ m, Below w.heap.size w (World.drewN _ m) ∧ Ts (World.drewN _ m) _ l ∧ Ts (World.drewN _ m) _ l2) := fun m => ⟨below_drewN hrel.out.2.1 m, hrel.out.2.2.1.below (below_drewN (Below.refl _ _) m) (Nat.le_refl _), hrel.out.2.2.2.below (below_drewN (Below.refl _ _) m) (Nat.le_refl _)⟩
            by_cases hq : x1 = y1
            · have hq' : (x1 == y1) = true := by simpa using hq
              have HX2 := hid (HX.out hq)
              clear HX HY hrel
              subst hq
              go_wp2_with fail
              go_quiet (fail)
              go_wp2_with fail
              go_roundw
              case rel => exact ⟨i + 1, by omega, by simp, HX2.out, HD.out _⟩
              case measure => simp only [iof]; omega
            · have hq' : (x1 == y1) = false := by simpa using hq
              have HY2 := hid (HY.out hq)
              clear HX HY hrel
              go_wp2_with fail
              go_quiet (fail)
              go_wp2_with fail
              go_ret
              exact ⟨by rw [HQ.out, decide_eq_false HY2.out]; rfl, (HD.out _).1⟩
          · have hlt' : ¬ (i : Int) < (l2.length : Int) := by omega
            have HF := hid hrel.out.2.1
            have HZ : Hid (l.take l2.length = l2) := by
              have := hrel.out.1
              obtain rfl : i = l2.length := by omega
              rw [List.take_length] at this
              exact hid this
            clear hrel
            go_wp2_with fail
            go_ret
            exact ⟨by rw [HQ.out, decide_eq_true HZ.out]; rfl, HF.out⟩
      · have e : q = false := by
          have := HE.out
          have h' : l2.isPrefixOf l = false := by
            apply Bool.eq_false_iff.2
            intro h
            exact hle (List.IsPrefix.length_le (List.isPrefixOf_iff_prefix.1 h))
          simpa [h'] using this
        rw [e]
        have hk : (l.length : Int) < (l2.length : Int) := by omega
        clear HE e hle
        go_enter Tryd.func20, Tryd.ntmps20
        go_wp2_with fail
        refine c.mono ?_
        rintro e w1 ⟨a, d, rfl, ht, h1, hb⟩
        have c3 := c2 w1
        have HB := hid hb
        clear c2 ht hb
        go_wp2_with fail
        refine c3.mono ?_
        rintro e w2 ⟨a2, d2, rfl, ht2, h3, hb2⟩
        have HB2 := hid (HB.out.trans (hb2.mono HB.out.size))
        clear ht2 hb2 c3 HB
        go_wp2_with fail
        go_ret
        exact ⟨rfl, HB2.out⟩
    · have e : q = false := by have := HE.out; simpa [hn2] using this
      rw [e]
      have hk : ¬ (n2 : Int) = 0 := by omega
      clear HE e he2 hg2 hn2
      go_enter Tryd.func20, Tryd.ntmps20
      go_wp2_with fail
      refine c.mono ?_
      rintro e w1 ⟨a, d, rfl, ht, h1, hb⟩
      have c3 := c2 w1
      have HB := hid hb
      clear c2 ht hb
      go_wp2_with fail
      refine c3.mono ?_
      rintro e w2 ⟨a2, d2, rfl, ht2, h3, hb2⟩
      have HB2 := hid (HB.out.trans (hb2.mono HB.out.size))
      clear ht2 hb2 c3 HB
      go_wp2_with fail
      go_ret
      exact ⟨rfl, HB2.out⟩
  · have e : q = false := by have := HE.out; simpa [hn] using this
    rw [e]
    have hk : ¬ (n : Int) = 0 := by omega
    clear HE e he hg hn hg2 he2
    go_enter Tryd.func20, Tryd.ntmps20
    go_wp2_with fail
    refine c.mono ?_
    rintro e w1 ⟨a, d, rfl, ht, h1, hb⟩
    have c3 := c2 w1
    have HB := hid hb
    clear c2 ht hb
    go_wp2_with fail
    refine c3.mono ?_
    rintro e w2 ⟨a2, d2, rfl, ht2, h3, hb2⟩
    have HB2 := hid (HB.out.trans (hb2.mono HB.out.size))
    clear ht2 hb2 c3 HB
    go_wp2_with fail
    go_ret
    exact ⟨rfl, HB2.out⟩
end Go.Proofs.YtcadnhjiodlpcaaDoor
