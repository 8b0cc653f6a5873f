/-
  takeOut.
-/
import Derived.Test.YtlbnilendcelkaaClr
namespace Go.Proofs.Ytlbnilendcelkaa
open Go.RowKit
/-- while entries are picked out of a row: those told lie in a new one, those left ahead in the old one -/
structure TkR {α : Type} (X : Enc (En α)) (tE : TypeId) (w u : World) (p o g cap : Nat) (l : List (En α)) (ans : Nat → Bool) (K : Nat → List Bx) (row : Nat → Prop) (k : Nat) (v : Value) : Prop where
  out : IsRow X tE u w.heap.size v (sel ans (l.take k))
  lay : Lay X tE u g cap (sel (fun k => !ans k) (l.take k) ++ l.drop (sel (fun k => !ans k) (l.take k)).length)
  box : AllB u (K k)
  chg : Chg (fun k => row k ∨ k = g) w u
namespace I
theorem take_nil {w : World} {p o : Nat} (hp : w.cell? ⟨p, o, none⟩ = some (.slice none 0 0)) (hz : w.frozen? ⟨p, o, none⟩ = false) (f : Value) :
    Calls Try.prog 25 #[.pointer (some ⟨p, o, none⟩), f] w fun r w' => r = .returned (.slice none 0 0) ∧ w' = w.setCell ⟨p, o, none⟩ (.slice none 0 0) := by
  go_enter Try.func25, Try.ntmps25
  go_wp2_with fail
  go_loopw [5, 6, 17] (fun v v' i u => v = .slice none 0 0 ∧ v' = .slice none 0 0 ∧ i = .int .i64 0 ∧ u = w) (fun _ _ _ _ => 0)
  case atStart => exact ⟨rfl, rfl, rfl, rfl⟩
  case round =>
    obtain ⟨rfl, rfl, rfl, rfl⟩ := hrel
    have hc := clear_none 28 33 Try.underlying28 none 0
    go_wp2_with fail
    go_ret
    exact ⟨rfl, rfl⟩
set_option maxRecDepth 100000 in
set_option maxHeartbeats 8000000 in
theorem take_at {w : World} {p o g cap : Nat} (l : List (En Int)) (hp : w.cell? ⟨p, o, none⟩ = some (.slice (some ⟨g, 0, none⟩) l.length cap)) (hz : w.frozen? ⟨p, o, none⟩ = false) (hl : Lay eI 33 w g cap l) (hn : l.length ≤ 2000) (hpg : p ≠ g) (hpl : p < w.heap.size)
    (fn : Nat) (caps : Array Value) (hin : ∀ args u, (callFunc fn args).run Try.prog u = .ok (.enter fn args) u) (ans : Nat → Bool) (K : Nat → List Bx) (row : Nat → Prop)
    (hK : AllB w (K 0)) (hap : ∀ k, ∀ x ∈ K k, x.1 ≠ g ∧ x.1 ≠ p ∧ x.1 < w.heap.size) (hrow : ∀ k, row k → k ≠ g ∧ k ≠ p ∧ k < w.heap.size)
    (hf : ∀ k (hk : k < l.length) (u : World), AllB u (K k) → Calls Try.prog fn (#[eI.agg l[k]] ++ caps) u fun r u' => r = .returned (.bool (ans k)) ∧ AllB u' (K (k + 1)) ∧ Chg row u u') :
    Calls Try.prog 25 #[.pointer (some ⟨p, o, none⟩), .func (.func fn) #[] caps] w fun r w' => ∃ vo, r = .returned vo ∧ IsRow eI 33 w' w.heap.size vo (sel ans l) ∧ Lay eI 33 w' g cap (sel (fun k => !ans k) l) ∧
      (∀ cs t, Box w p cs t → Box w' p (cs.setIfInBounds o (.slice (some ⟨g, 0, none⟩) (sel (fun k => !ans k) l).length cap)) t) ∧ AllB w' (K l.length) ∧ Chg (fun k => row k ∨ k = p ∨ k = g) w w' := by
  obtain ⟨i0, hi0, hz0, hz1, hz2⟩ := info_parts infoI
  obtain ⟨N, hN⟩ : ∃ N, N = l.length := ⟨_, rfl⟩
  have HN := hid hN
  have HSt : Hid (TkR eI 33 w w p o g cap l ans K row 0 (.slice none 0 0)) := ⟨by simpa [sel] using IsRow.nil eI 33 w w.heap.size, by simpa [sel] using hl, by simpa using hK, Chg.refl _ _⟩
  have HAP := hid hap
  have HRW := hid hrow
  have Hf := hid hf
  have HCL : Hid (l.length ≤ cap ∧ cap ≤ maxLen ∧ g < w.heap.size) := ⟨hl.le, hl.mx, hl.lt⟩
  have HPC : Hid (∀ u, Chg (fun k => row k ∨ k = g) w u → u.cell? ⟨p, o, none⟩ = some (.slice (some ⟨g, 0, none⟩) N cap) ∧ u.frozen? ⟨p, o, none⟩ = false) := fun u hu => by
    have hb := hu.block p hpl (by rintro (h | h); exact (hrow p h).2.1 rfl; exact hpg h)
    exact ⟨(World.cell?_of_block (a := ⟨p, o, none⟩) hb).trans (by rw [hN]; exact hp), (World.frozen?_of_block (a := ⟨p, o, none⟩) hb).trans hz⟩
  rw [← hN] at hp hn
  clear hN hl hK hap hrow hf
  go_enter Try.func25, Try.ntmps25
  go_wp2_with fail
  go_loopw [5, 6, 17] (fun v v' i u => ∃ k : Nat, k ≤ N ∧ i = .int .i64 (k : Int) ∧ v' = .slice (some ⟨g, 0, none⟩) (sel (fun k => !ans k) (l.take k)).length cap ∧ Hid (TkR eI 33 w u p o g cap l ans K row k v)) (fun _ _ i _ => N - (intOf i).toNat)
  case atStart => exact ⟨0, Nat.zero_le _, rfl, by simp [sel], HSt.out⟩
  case round =>
    clear HSt
    obtain ⟨k, hk, rfl, rfl, hrel⟩ := hrel
    have hsm := sel_two ans (l.take k)
    have hltk : (l.take k).length = k := by simp; have := HN.out; omega
    rw [hltk] at hsm
    obtain ⟨j, hj⟩ : ∃ j, j = (sel (fun k => !ans k) (l.take k)).length := ⟨_, rfl⟩
    rw [← hj]
    have HJ := hid hj
    have hjk : j ≤ k := by omega
    by_cases hlt : k < N
    · have hki : (k : Int) < (N : Int) := by omega
      have hkl : k < l.length := by have := HN.out; omega
      obtain ⟨h1, h2, h3, h4⟩ := hrel.out
      rw [← hj] at h2
      have cf := Hf.out k hkl
      have hget : (sel (fun k => !ans k) (l.take k) ++ l.drop j)[k]? = some l[k] := by rw [List.getElem?_append_right (by omega), ← hj, List.getElem?_drop, show j + (k - j) = k by omega]; simp [hkl]
      obtain ⟨d0, d1, d2⟩ := h2.get hget
      have HA : Hid (l[k]? = some l[k]) := by unfold Hid; simp [hkl]
      have HT : Hid (∀ an, sel an (l.take (k + 1)) = sel an (l.take k) ++ if an k then [l[k]] else []) := fun an => sel_take an l k hkl
      clear hj
      generalize l[k] = x at *
      obtain ⟨xv, xo, xa⟩ := x
      obtain ⟨va, ca, hva⟩ := ownsRow_slice h1
      subst hva
      simp only [eI] at d0 d1 d2
      have hws : w.heap.size ≤ wr.heap.size := h4.size
      have b0 := Box.new wr #[.int .i64 xv, .int .i64 xo, .int .i64 xa] 33
      have ch1 := h4.alloc (.cells #[.int .i64 xv, .int .i64 xo, .int .i64 xa] 33)
      have HK1 := h3.chg ((Chg.refl (fun _ => False) wr).alloc (.cells #[.int .i64 xv, .int .i64 xo, .int .i64 xa] 33)) (fun _ _ x => x)
      have hl1 := h2.chg ((Chg.refl (fun _ => False) wr).alloc (.cells #[.int .i64 xv, .int .i64 xo, .int .i64 xa] 33)) (fun x => x)
      have ho1 := IsRow.chg h1 ((Chg.refl (fun _ => False) wr).alloc (.cells #[.int .i64 xv, .int .i64 xo, .int .i64 xa] 33)) (fun _ _ x => x)
      have cf1 := cf _ HK1
      have HX : Hid (IsRow eI 33 (wr.alloc (.cells #[.int .i64 xv, .int .i64 xo, .int .i64 xa] 33)) w.heap.size (.slice va (sel ans (l.take k)).length ca) (sel ans (l.take k)) ∧ Lay eI 33 (wr.alloc (.cells #[.int .i64 xv, .int .i64 xo, .int .i64 xa] 33)) g cap (sel (fun k => !ans k) (l.take k) ++ l.drop j) ∧ Chg (fun k => row k ∨ k = g) w (wr.alloc (.cells #[.int .i64 xv, .int .i64 xo, .int .i64 xa] 33)) ∧ Box (wr.alloc (.cells #[.int .i64 xv, .int .i64 xo, .int .i64 xa] 33)) wr.heap.size #[.int .i64 xv, .int .i64 xo, .int .i64 xa] 33 ∧ Calls Try.prog fn (#[eI.agg ⟨xv, xo, xa⟩] ++ caps) (wr.alloc (.cells #[.int .i64 xv, .int .i64 xo, .int .i64 xa] 33)) fun r u' => r = .returned (.bool (ans k)) ∧ AllB u' (K (k + 1)) ∧ Chg row (wr.alloc (.cells #[.int .i64 xv, .int .i64 xo, .int .i64 xa] 33)) u') := ⟨ho1, hl1, ch1, b0, cf1⟩
      clear h1 h2 h3 h4 hrel cf hget b0 ch1 HK1 hl1 ho1 cf1
      go_wp2_with fail
      obtain ⟨ho1, hl1, ch1, b0, cf1⟩ := HX.out
      have hsz1 : (wr.alloc (.cells #[.int .i64 xv, .int .i64 xo, .int .i64 xa] 33)).heap.size = wr.heap.size + 1 := by simp
      refine Calls.mono cf1 ?_
      rintro r wx ⟨rfl, hK2, hch⟩
      have hso1 : ∀ b, (Value.slice va (sel ans (l.take k)).length ca).ownBlock = some b → ¬ row b := fun b hb hr => by have h5 := (ho1.lt b hb).2; have := (HRW.out b hr).2.2; omega
      have ho2 := ho1.chg hch hso1
      have hl2 := hl1.chg hch (fun hr => (HRW.out g hr).1 rfl)
      have ch2 : Chg (fun k => row k ∨ k = g) w wx := ch1.trans hch (fun _ _ h => .inl h)
      have b1 := b0.chg hch (fun hr => by have := (HRW.out _ hr).2.2; omega)
      have hws2 : w.heap.size ≤ wx.heap.size := ch2.size
      have bl2 : wr.heap.size < wx.heap.size := b1.lt
      clear HX ho1 hl1 ch1 b0 cf1 hso1 hch hsz1
      have e0 := b1.cell 0
      have e1 := b1.cell 1
      have e2 := b1.cell 2
      simp only [List.getElem?_toArray, List.getElem?_cons_zero, List.getElem?_cons_succ] at e0 e1 e2
      have b2 := Box.new wx #[.int .i64 xv, .int .i64 xo, .int .i64 xa] 33
      have hN0 : Chg (fun _ => False) wx (wx.alloc (.cells #[.int .i64 xv, .int .i64 xo, .int .i64 xa] 33)) := (Chg.refl (fun _ => False) wx).alloc (.cells #[.int .i64 xv, .int .i64 xo, .int .i64 xa] 33)
      have ho3 := ho2.chg hN0 (fun _ _ x => x)
      have hl3 := hl2.chg hN0 (fun x => x)
      have hK3 := hK2.chg hN0 (fun _ _ x => x)
      have ch3 := ch2.alloc (.cells #[.int .i64 xv, .int .i64 xo, .int .i64 xa] 33)
      obtain ⟨n, hn0⟩ : ∃ n, n = (sel ans (l.take k)).length := ⟨_, rfl⟩
      have hnk : n ≤ k := by omega
      have HNn := hid hn0
      have HR3 : Hid (Lay eI 33 (wx.alloc (.cells #[.int .i64 xv, .int .i64 xo, .int .i64 xa] 33)) g cap (sel (fun k => !ans k) (l.take k) ++ l.drop j) ∧ AllB (wx.alloc (.cells #[.int .i64 xv, .int .i64 xo, .int .i64 xa] 33)) (K (k + 1)) ∧ Chg (fun k => row k ∨ k = g) w (wx.alloc (.cells #[.int .i64 xv, .int .i64 xo, .int .i64 xa] 33)) ∧ IsRow eI 33 (wx.alloc (.cells #[.int .i64 xv, .int .i64 xo, .int .i64 xa] 33)) w.heap.size (.slice va n ca) (sel ans (l.take k))) := ⟨hl3, hK3, ch3, by rw [hn0]; exact ho3⟩
      have HB2 : Hid (Box (wx.alloc (.cells #[.int .i64 xv, .int .i64 xo, .int .i64 xa] 33)) wx.heap.size #[.int .i64 xv, .int .i64 xo, .int .i64 xa] 33) := b2
      rw [← hn0]
      clear ho2 hl2 ch2 hK2 ho3 hl3 hK3 ch3 hN0 b1 b2 hn0
      cases ha : ans k with
      | true =>
        have HANS := hid ha
        have hown1 := HR3.out.2.2.2
        unfold IsRow at hown1
        rw [← HNn.out] at hown1
        have HOW := hid hown1
        clear hown1
        go_wp2_with (at_builtin; refine wpList_append_own_at _ rfl _ _ 28 rfl w.heap.size 33 i0 (.agg #[.int .i64 0, .int .i64 0, .int .i64 0]) 3 24 Try.underlying28 hi0 hz0 hz1 hz2 rfl (by decide) _ n _ rfl HOW.out ⟨wx.heap.size, 0, none⟩ 1 1 [.int .i64 xv, .int .i64 xo, .int .i64 xa] rfl rfl (World.news_of_block HB2.out) ?c2 ?c3 ?c4 ?c5 ?_)
        case c2 => intro u hu; simp at hu; rcases hu with rfl | rfl | rfl <;> rfl
        case c3 => unfold maxLen; omega
        case c4 => omega
        case c5 => simp; omega
        intro v' w4 hown4 hgrow _ _
        have HO4 : Hid (TkR eI 33 w w4 p o g cap l ans K row (k + 1) v' ∧ (sel (fun k => !ans k) (l.take (k + 1))).length = j) := by
          have hs := HT.out ans
          have hs2 := HT.out (fun k => !ans k)
          rw [HANS.out] at hs
          simp only [if_true] at hs
          have hs2' : sel (fun k => !ans k) (l.take (k + 1)) = sel (fun k => !ans k) (l.take k) := by rw [hs2]; simp [HANS.out]
          obtain ⟨g1, g2, g3, g4⟩ := HR3.out
          have gC := Chg.ofGrown hgrow
          have gF : ∀ b, (Value.slice va n ca).ownBlock = some b → w.heap.size ≤ b := fun b hb => (g4.lt b hb).2
          refine ⟨⟨?_, ?_, ?_, ?_⟩, by rw [hs2', ← HJ.out]⟩
          · rw [hs]
            unfold IsRow
            rw [List.length_append, List.length_singleton, ← HNn.out, flat_app]
            exact hown4
          · rw [hs2', ← HJ.out]
            exact g1.chg gC (fun e => by have h5 := gF g e; have := HCL.out.2.2; omega)
          · exact g2.chg gC (fun x hx e => by have h5 := gF _ e; have := (HAP.out (k + 1) x hx).2.2; omega)
          · exact g3.trans gC (fun i hi e => by have h5 := gF i e; omega)
        clear HOW hown4 hgrow e0 e1 e2
        go_wp2_with fail
        go_roundw
        case rel => exact ⟨k + 1, by omega, by simp, by rw [HO4.out.2], HO4.out.1⟩
        case measure => simp only [intOf]; omega
      | false =>
        have HANS := hid ha
        have hjc : j + 1 ≤ cap := by have := HCL.out.1; have := HN.out; omega
        have HSP : Hid (∀ q, q < 3 → ((wx.alloc (.cells #[.int .i64 xv, .int .i64 xo, .int .i64 xa] 33)).cell? ⟨g, 0 + j * 3 + q, none⟩).isSome = true ∧ (wx.alloc (.cells #[.int .i64 xv, .int .i64 xo, .int .i64 xa] 33)).frozen? ⟨g, 0 + j * 3 + q, none⟩ = false) := fun q hq => ⟨HR3.out.1.has _ (by omega), HR3.out.1.frozen _⟩
        have hpre := HR3.out.1.pre j (by have := HJ.out; simp; omega)
        have hpe : (sel (fun k => !ans k) (l.take k) ++ l.drop j).take j = sel (fun k => !ans k) (l.take k) := by rw [List.take_append_of_le_length (by rw [← HJ.out]; exact Nat.le_refl _), List.take_of_length_le (by rw [← HJ.out]; exact Nat.le_refl _)]
        rw [hpe] at hpre
        have hprc := hpre.row (B := 0) (Nat.zero_le _)
        unfold IsRow at hprc
        rw [← HJ.out] at hprc
        have HOW := hid hprc
        clear hpre hpe hprc
        have HO4 : Hid (TkR eI 33 w ((wx.alloc (.cells #[.int .i64 xv, .int .i64 xo, .int .i64 xa] 33)).setCells g (j * 3) [.int .i64 xv, .int .i64 xo, .int .i64 xa]) p o g cap l ans K row (k + 1) (.slice va n ca) ∧ (sel (fun k => !ans k) (l.take (k + 1))).length = j + 1) := by
          have hs := HT.out ans
          have hs2 := HT.out (fun k => !ans k)
          rw [HANS.out] at hs
          simp only [Bool.false_eq_true, if_false, List.append_nil] at hs
          have hs2' : sel (fun k => !ans k) (l.take (k + 1)) = sel (fun k => !ans k) (l.take k) ++ [⟨xv, xo, xa⟩] := by rw [hs2]; simp [HANS.out]
          obtain ⟨g1, g2, g3, g4⟩ := HR3.out
          have gC : Chg (fun k => k = g) (wx.alloc (.cells #[.int .i64 xv, .int .i64 xo, .int .i64 xa] 33)) ((wx.alloc (.cells #[.int .i64 xv, .int .i64 xo, .int .i64 xa] 33)).setCells g (j * 3) [.int .i64 xv, .int .i64 xo, .int .i64 xa]) := chg_setCells _ g _ _ _ rfl
          have hj1 : (sel (fun k => !ans k) (l.take k)).length = j := HJ.out.symm
          refine ⟨⟨?_, ?_, ?_, ?_⟩, by rw [hs2']; simp [hj1]⟩
          · rw [hs]
            exact g4.chg gC (fun b hb e => by have h5 := (g4.lt b hb).2; have := HCL.out.2.2; omega)
          · rw [hs2', List.length_append, hj1]
            have hset := g1.set (i := j) (by simp; omega) (⟨xv, xo, xa⟩ : En Int)
            have hl9 : (sel (fun k => !ans k) (l.take k) ++ l.drop j).set j (⟨xv, xo, xa⟩ : En Int) = sel (fun k => !ans k) (l.take k) ++ [⟨xv, xo, xa⟩] ++ l.drop (j + 1) := by
              rw [List.set_append_right _ _ (by omega), hj1, Nat.sub_self, List.drop_eq_getElem_cons (by omega : j < l.length), List.set_cons_zero]
              simp
            rw [hl9] at hset
            exact hset
          · exact g2.chg gC (fun x hx e => (HAP.out (k + 1) x hx).1 e)
          · exact g3.trans gC (fun i hi e => .inr e)
        go_wp2_with (at_builtin; refine wpList_append_arg _ rfl _ _ 28 rfl 33 i0 (.agg #[.int .i64 0, .int .i64 0, .int .i64 0]) 3 24 Try.underlying28 hi0 hz0 hz1 hz2 rfl (by decide) g 0 j cap (flat eI (sel (fun k => !ans k) (l.take k))) rfl ?c0 ?c1 ⟨wx.heap.size, 0, none⟩ 1 1 [.int .i64 xv, .int .i64 xo, .int .i64 xa] rfl rfl (World.news_of_block HB2.out) ?c2 ?c3 ?c4 ?c5 ?c6 ?c7)
        case c0 => exact HOW.out.1
        case c1 => intro q u hq; have := HOW.out.cells (g := g) rfl q u hq; rwa [Addr.add_lit] at this
        case c2 => intro u hu; simp at hu; rcases hu with rfl | rfl | rfl <;> rfl
        case c3 => intro _ q hq; exact HSP.out q (by simpa using hq)
        case c4 => unfold maxLen; omega
        case c5 => omega
        case c7 => intro hbad; omega
        go_roundw
        case rel => exact ⟨k + 1, by omega, by simp, by rw [HO4.out.2], HO4.out.1⟩
        case measure => simp only [intOf]; omega
    · have hki : ¬ (k : Int) < (N : Int) := by omega
      obtain rfl : k = N := by omega
      obtain ⟨h1, h2, h3, h4⟩ := hrel.out
      have htk : l.take k = l := by rw [HN.out]; exact List.take_length
      rw [htk] at h1 h2 hj HJ hsm
      rw [← hj] at h2
      have hpc := HPC.out wr h4
      have hcap := HCL.out.1
      have hkn := HN.out
      have c1 := hpc.1
      have c2 := hpc.2
      obtain ⟨va, ca, hva⟩ := ownsRow_slice h1
      subst hva
      have hgl := HCL.out.2.2
      have hp2 : ∀ (cs : Array Value) (t : TypeId), Box w p cs t → Box wr p cs t := fun cs t hb => hb.chg h4 (by rintro (h | h); exact (HRW.out p h).2.1 rfl; exact hpg h)
      have hpre := h2.pre j (by simp; omega)
      have hpe : (sel (fun k => !ans k) l ++ l.drop j).take j = sel (fun k => !ans k) l := by rw [List.take_append_of_le_length (by omega), List.take_of_length_le (by omega)]
      rw [hpe] at hpre
      have FIN : Hid (∀ u, Lay eI 33 u g cap (sel (fun k => !ans k) l) → Chg (fun k => k = g) wr u → ∃ vo, (Ending.returned (.slice va (sel ans l).length ca) : Ending) = .returned vo ∧ IsRow eI 33 (u.setCell ⟨p, o, none⟩ (.slice (some ⟨g, 0, none⟩) j cap)) w.heap.size vo (sel ans l) ∧ Lay eI 33 (u.setCell ⟨p, o, none⟩ (.slice (some ⟨g, 0, none⟩) j cap)) g cap (sel (fun k => !ans k) l) ∧
          (∀ cs t, Box w p cs t → Box (u.setCell ⟨p, o, none⟩ (.slice (some ⟨g, 0, none⟩) j cap)) p (cs.setIfInBounds o (.slice (some ⟨g, 0, none⟩) (sel (fun k => !ans k) l).length cap)) t) ∧ AllB (u.setCell ⟨p, o, none⟩ (.slice (some ⟨g, 0, none⟩) j cap)) (K l.length) ∧ Chg (fun k => row k ∨ k = p ∨ k = g) w (u.setCell ⟨p, o, none⟩ (.slice (some ⟨g, 0, none⟩) j cap))) := fun u hu hc => by
        have hc2 : Chg (fun k => k = p) u (u.setCell ⟨p, o, none⟩ (.slice (some ⟨g, 0, none⟩) j cap)) := (Chg.refl (fun k => k = p) u).setCell p o _ (fun _ => rfl)
        have hbs : ∀ b, (Value.slice va (sel ans l).length ca).ownBlock = some b → w.heap.size ≤ b := fun b hb => (h1.lt b hb).2
        refine ⟨_, rfl, (h1.chg hc (fun b hb e => by have := hbs b hb; omega)).chg hc2 (fun b hb e => by have := hbs b hb; omega), hu.chg hc2 (fun e => hpg e.symm), fun cs t hb => ?_, ?_, ?_⟩
        · have hb2 := ((hp2 cs t hb).chg hc (fun e => hpg e)).store o (.slice (some ⟨g, 0, none⟩) j cap)
          rw [← hj]; exact hb2
        · rw [← HN.out]
          exact (h3.chg hc (fun x hx e => (HAP.out k x hx).1 e)).chg hc2 (fun x hx e => (HAP.out k x hx).2.1 e)
        · exact ((Chg.mono h4 (S' := fun k => row k ∨ k = p ∨ k = g) (fun i _ e => by rcases e with e | e; exact .inl e; exact .inr (.inr e))).trans hc (fun i _ e => .inr (.inr e))).trans hc2 (fun i _ e => .inr (.inl e))
      by_cases hjk2 : j = k
      · have HF := hid (FIN.out wr hpre (Chg.refl _ _))
        have hclr := fun a c => clear_none 28 33 Try.underlying28 a c
        clear h1 h2 h3 h4 hrel hpre hpe hp2 FIN hsm hj htk HPC HCL HN hkn hltk HJ HAP HRW Hf hp hz
        generalize (sel ans l).length = n at *
        by_cases hcj : cap = j
        · subst hcj hjk2
          go_wp2_with fail
          go_ret
          exact HF.out
        · subst hjk2
          go_wp2_with fail
          go_ret
          exact HF.out
      · have hjN : j < k := by omega
        obtain ⟨vs, hvl, hclr⟩ := clear_some 28 33 i0 (.int .i64 0) (.int .i64 0) (.int .i64 0) Try.underlying28 hi0 hz0 rfl rfl rfl g (j * 3) (k - j) (cap - j) (by omega)
        have hclr := hclr wr (fun q hq => h2.has _ (by omega)) (fun q hq => h2.frozen _)
        have HF := hid (FIN.out _ (hpre.far vs (j * 3) wr (by rw [hj]; exact Nat.le_refl _)) (chg_setCells _ g vs (j * 3) wr rfl))
        have hpc2 := HPC.out (wr.setCells g (j * 3) vs) (h4.trans (chg_setCells (fun k => k = g) g vs (j * 3) wr rfl) (fun i _ e => .inr e))
        have c3 := hpc2.1
        have c4 := hpc2.2
        have hcj : ¬ cap = j := by omega
        have hki2 : (j : Int) ≤ (k : Int) := by omega
        have hki3 : j ≤ k := by omega
        have hki4 : (j : Int) ≤ (cap : Int) := by omega
        clear h1 h2 h3 h4 hrel hpre hpe hp2 FIN hsm hj htk HPC HCL HN hkn hltk HJ HAP HRW Hf hp hz hvl
        generalize (sel ans l).length = n at *
        go_wp2_with fail
        go_ret
        exact HF.out
end I
namespace S
theorem take_nil {w : World} {p o : Nat} (hp : w.cell? ⟨p, o, none⟩ = some (.slice none 0 0)) (hz : w.frozen? ⟨p, o, none⟩ = false) (f : Value) :
    Calls Try.prog 40 #[.pointer (some ⟨p, o, none⟩), f] w fun r w' => r = .returned (.slice none 0 0) ∧ w' = w.setCell ⟨p, o, none⟩ (.slice none 0 0) := by
  go_enter Try.func40, Try.ntmps40
  go_wp2_with fail
  go_loopw [5, 6, 17] (fun v v' i u => v = .slice none 0 0 ∧ v' = .slice none 0 0 ∧ i = .int .i64 0 ∧ u = w) (fun _ _ _ _ => 0)
  case atStart => exact ⟨rfl, rfl, rfl, rfl⟩
  case round =>
    obtain ⟨rfl, rfl, rfl, rfl⟩ := hrel
    have hc := clear_none 64 67 Try.underlying64 none 0
    go_wp2_with fail
    go_ret
    exact ⟨rfl, rfl⟩
set_option maxRecDepth 100000 in
set_option maxHeartbeats 8000000 in
theorem take_at {w : World} {p o g cap : Nat} (l : List (En ByteArray)) (hp : w.cell? ⟨p, o, none⟩ = some (.slice (some ⟨g, 0, none⟩) l.length cap)) (hz : w.frozen? ⟨p, o, none⟩ = false) (hl : Lay eS 67 w g cap l) (hn : l.length ≤ 2000) (hpg : p ≠ g) (hpl : p < w.heap.size)
    (fn : Nat) (caps : Array Value) (hin : ∀ args u, (callFunc fn args).run Try.prog u = .ok (.enter fn args) u) (ans : Nat → Bool) (K : Nat → List Bx) (row : Nat → Prop)
    (hK : AllB w (K 0)) (hap : ∀ k, ∀ x ∈ K k, x.1 ≠ g ∧ x.1 ≠ p ∧ x.1 < w.heap.size) (hrow : ∀ k, row k → k ≠ g ∧ k ≠ p ∧ k < w.heap.size)
    (hf : ∀ k (hk : k < l.length) (u : World), AllB u (K k) → Calls Try.prog fn (#[eS.agg l[k]] ++ caps) u fun r u' => r = .returned (.bool (ans k)) ∧ AllB u' (K (k + 1)) ∧ Chg row u u') :
    Calls Try.prog 40 #[.pointer (some ⟨p, o, none⟩), .func (.func fn) #[] caps] w fun r w' => ∃ vo, r = .returned vo ∧ IsRow eS 67 w' w.heap.size vo (sel ans l) ∧ Lay eS 67 w' g cap (sel (fun k => !ans k) l) ∧
      (∀ cs t, Box w p cs t → Box w' p (cs.setIfInBounds o (.slice (some ⟨g, 0, none⟩) (sel (fun k => !ans k) l).length cap)) t) ∧ AllB w' (K l.length) ∧ Chg (fun k => row k ∨ k = p ∨ k = g) w w' := by
  obtain ⟨i0, hi0, hz0, hz1, hz2⟩ := info_parts infoS
  obtain ⟨N, hN⟩ : ∃ N, N = l.length := ⟨_, rfl⟩
  have HN := hid hN
  have HSt : Hid (TkR eS 67 w w p o g cap l ans K row 0 (.slice none 0 0)) := ⟨by simpa [sel] using IsRow.nil eS 67 w w.heap.size, by simpa [sel] using hl, by simpa using hK, Chg.refl _ _⟩
  have HAP := hid hap
  have HRW := hid hrow
  have Hf := hid hf
  have HCL : Hid (l.length ≤ cap ∧ cap ≤ maxLen ∧ g < w.heap.size) := ⟨hl.le, hl.mx, hl.lt⟩
  have HPC : Hid (∀ u, Chg (fun k => row k ∨ k = g) w u → u.cell? ⟨p, o, none⟩ = some (.slice (some ⟨g, 0, none⟩) N cap) ∧ u.frozen? ⟨p, o, none⟩ = false) := fun u hu => by
    have hb := hu.block p hpl (by rintro (h | h); exact (hrow p h).2.1 rfl; exact hpg h)
    exact ⟨(World.cell?_of_block (a := ⟨p, o, none⟩) hb).trans (by rw [hN]; exact hp), (World.frozen?_of_block (a := ⟨p, o, none⟩) hb).trans hz⟩
  rw [← hN] at hp hn
  clear hN hl hK hap hrow hf
  go_enter Try.func40, Try.ntmps40
  go_wp2_with fail
  go_loopw [5, 6, 17] (fun v v' i u => ∃ k : Nat, k ≤ N ∧ i = .int .i64 (k : Int) ∧ v' = .slice (some ⟨g, 0, none⟩) (sel (fun k => !ans k) (l.take k)).length cap ∧ Hid (TkR eS 67 w u p o g cap l ans K row k v)) (fun _ _ i _ => N - (intOf i).toNat)
  case atStart => exact ⟨0, Nat.zero_le _, rfl, by simp [sel], HSt.out⟩
  case round =>
    clear HSt
    obtain ⟨k, hk, rfl, rfl, hrel⟩ := hrel
    have hsm := sel_two ans (l.take k)
    have hltk : (l.take k).length = k := by simp; have := HN.out; omega
    rw [hltk] at hsm
    obtain ⟨j, hj⟩ : ∃ j, j = (sel (fun k => !ans k) (l.take k)).length := ⟨_, rfl⟩
    rw [← hj]
    have HJ := hid hj
    have hjk : j ≤ k := by omega
    by_cases hlt : k < N
    · have hki : (k : Int) < (N : Int) := by omega
      have hkl : k < l.length := by have := HN.out; omega
      obtain ⟨h1, h2, h3, h4⟩ := hrel.out
      rw [← hj] at h2
      have cf := Hf.out k hkl
      have hget : (sel (fun k => !ans k) (l.take k) ++ l.drop j)[k]? = some l[k] := by rw [List.getElem?_append_right (by omega), ← hj, List.getElem?_drop, show j + (k - j) = k by omega]; simp [hkl]
      obtain ⟨d0, d1, d2⟩ := h2.get hget
      have HA : Hid (l[k]? = some l[k]) := by unfold Hid; simp [hkl]
      have HT : Hid (∀ an, sel an (l.take (k + 1)) = sel an (l.take k) ++ if an k then [l[k]] else []) := fun an => sel_take an l k hkl
      clear hj
      generalize l[k] = x at *
      obtain ⟨xv, xo, xa⟩ := x
      obtain ⟨va, ca, hva⟩ := ownsRow_slice h1
      subst hva
      simp only [eS] at d0 d1 d2
      have hws : w.heap.size ≤ wr.heap.size := h4.size
      have b0 := Box.new wr #[.int .i64 xv, .int .i64 xo, .string xa] 67
      have ch1 := h4.alloc (.cells #[.int .i64 xv, .int .i64 xo, .string xa] 67)
      have HK1 := h3.chg ((Chg.refl (fun _ => False) wr).alloc (.cells #[.int .i64 xv, .int .i64 xo, .string xa] 67)) (fun _ _ x => x)
      have hl1 := h2.chg ((Chg.refl (fun _ => False) wr).alloc (.cells #[.int .i64 xv, .int .i64 xo, .string xa] 67)) (fun x => x)
      have ho1 := IsRow.chg h1 ((Chg.refl (fun _ => False) wr).alloc (.cells #[.int .i64 xv, .int .i64 xo, .string xa] 67)) (fun _ _ x => x)
      have cf1 := cf _ HK1
      have HX : Hid (IsRow eS 67 (wr.alloc (.cells #[.int .i64 xv, .int .i64 xo, .string xa] 67)) w.heap.size (.slice va (sel ans (l.take k)).length ca) (sel ans (l.take k)) ∧ Lay eS 67 (wr.alloc (.cells #[.int .i64 xv, .int .i64 xo, .string xa] 67)) g cap (sel (fun k => !ans k) (l.take k) ++ l.drop j) ∧ Chg (fun k => row k ∨ k = g) w (wr.alloc (.cells #[.int .i64 xv, .int .i64 xo, .string xa] 67)) ∧ Box (wr.alloc (.cells #[.int .i64 xv, .int .i64 xo, .string xa] 67)) wr.heap.size #[.int .i64 xv, .int .i64 xo, .string xa] 67 ∧ Calls Try.prog fn (#[eS.agg ⟨xv, xo, xa⟩] ++ caps) (wr.alloc (.cells #[.int .i64 xv, .int .i64 xo, .string xa] 67)) fun r u' => r = .returned (.bool (ans k)) ∧ AllB u' (K (k + 1)) ∧ Chg row (wr.alloc (.cells #[.int .i64 xv, .int .i64 xo, .string xa] 67)) u') := ⟨ho1, hl1, ch1, b0, cf1⟩
      clear h1 h2 h3 h4 hrel cf hget b0 ch1 HK1 hl1 ho1 cf1
      go_wp2_with fail
      obtain ⟨ho1, hl1, ch1, b0, cf1⟩ := HX.out
      have hsz1 : (wr.alloc (.cells #[.int .i64 xv, .int .i64 xo, .string xa] 67)).heap.size = wr.heap.size + 1 := by simp
      refine Calls.mono cf1 ?_
      rintro r wx ⟨rfl, hK2, hch⟩
      have hso1 : ∀ b, (Value.slice va (sel ans (l.take k)).length ca).ownBlock = some b → ¬ row b := fun b hb hr => by have h5 := (ho1.lt b hb).2; have := (HRW.out b hr).2.2; omega
      have ho2 := ho1.chg hch hso1
      have hl2 := hl1.chg hch (fun hr => (HRW.out g hr).1 rfl)
      have ch2 : Chg (fun k => row k ∨ k = g) w wx := ch1.trans hch (fun _ _ h => .inl h)
      have b1 := b0.chg hch (fun hr => by have := (HRW.out _ hr).2.2; omega)
      have hws2 : w.heap.size ≤ wx.heap.size := ch2.size
      have bl2 : wr.heap.size < wx.heap.size := b1.lt
      clear HX ho1 hl1 ch1 b0 cf1 hso1 hch hsz1
      have e0 := b1.cell 0
      have e1 := b1.cell 1
      have e2 := b1.cell 2
      simp only [List.getElem?_toArray, List.getElem?_cons_zero, List.getElem?_cons_succ] at e0 e1 e2
      have b2 := Box.new wx #[.int .i64 xv, .int .i64 xo, .string xa] 67
      have hN0 : Chg (fun _ => False) wx (wx.alloc (.cells #[.int .i64 xv, .int .i64 xo, .string xa] 67)) := (Chg.refl (fun _ => False) wx).alloc (.cells #[.int .i64 xv, .int .i64 xo, .string xa] 67)
      have ho3 := ho2.chg hN0 (fun _ _ x => x)
      have hl3 := hl2.chg hN0 (fun x => x)
      have hK3 := hK2.chg hN0 (fun _ _ x => x)
      have ch3 := ch2.alloc (.cells #[.int .i64 xv, .int .i64 xo, .string xa] 67)
      obtain ⟨n, hn0⟩ : ∃ n, n = (sel ans (l.take k)).length := ⟨_, rfl⟩
      have hnk : n ≤ k := by omega
      have HNn := hid hn0
      have HR3 : Hid (Lay eS 67 (wx.alloc (.cells #[.int .i64 xv, .int .i64 xo, .string xa] 67)) g cap (sel (fun k => !ans k) (l.take k) ++ l.drop j) ∧ AllB (wx.alloc (.cells #[.int .i64 xv, .int .i64 xo, .string xa] 67)) (K (k + 1)) ∧ Chg (fun k => row k ∨ k = g) w (wx.alloc (.cells #[.int .i64 xv, .int .i64 xo, .string xa] 67)) ∧ IsRow eS 67 (wx.alloc (.cells #[.int .i64 xv, .int .i64 xo, .string xa] 67)) w.heap.size (.slice va n ca) (sel ans (l.take k))) := ⟨hl3, hK3, ch3, by rw [hn0]; exact ho3⟩
      have HB2 : Hid (Box (wx.alloc (.cells #[.int .i64 xv, .int .i64 xo, .string xa] 67)) wx.heap.size #[.int .i64 xv, .int .i64 xo, .string xa] 67) := b2
      rw [← hn0]
      clear ho2 hl2 ch2 hK2 ho3 hl3 hK3 ch3 hN0 b1 b2 hn0
      cases ha : ans k with
      | true =>
        have HANS := hid ha
        have hown1 := HR3.out.2.2.2
        unfold IsRow at hown1
        rw [← HNn.out] at hown1
        have HOW := hid hown1
        clear hown1
        go_wp2_with (at_builtin; refine wpList_append_own_at _ rfl _ _ 64 rfl w.heap.size 67 i0 (.agg #[.int .i64 0, .int .i64 0, .string .empty]) 3 32 Try.underlying64 hi0 hz0 hz1 hz2 rfl (by decide) _ n _ rfl HOW.out ⟨wx.heap.size, 0, none⟩ 1 1 [.int .i64 xv, .int .i64 xo, .string xa] rfl rfl (World.news_of_block HB2.out) ?c2 ?c3 ?c4 ?c5 ?_)
        case c2 => intro u hu; simp at hu; rcases hu with rfl | rfl | rfl <;> rfl
        case c3 => unfold maxLen; omega
        case c4 => omega
        case c5 => simp; omega
        intro v' w4 hown4 hgrow _ _
        have HO4 : Hid (TkR eS 67 w w4 p o g cap l ans K row (k + 1) v' ∧ (sel (fun k => !ans k) (l.take (k + 1))).length = j) := by
          have hs := HT.out ans
          have hs2 := HT.out (fun k => !ans k)
          rw [HANS.out] at hs
          simp only [if_true] at hs
          have hs2' : sel (fun k => !ans k) (l.take (k + 1)) = sel (fun k => !ans k) (l.take k) := by rw [hs2]; simp [HANS.out]
          obtain ⟨g1, g2, g3, g4⟩ := HR3.out
          have gC := Chg.ofGrown hgrow
          have gF : ∀ b, (Value.slice va n ca).ownBlock = some b → w.heap.size ≤ b := fun b hb => (g4.lt b hb).2
          refine ⟨⟨?_, ?_, ?_, ?_⟩, by rw [hs2', ← HJ.out]⟩
          · rw [hs]
            unfold IsRow
            rw [List.length_append, List.length_singleton, ← HNn.out, flat_app]
            exact hown4
          · rw [hs2', ← HJ.out]
            exact g1.chg gC (fun e => by have h5 := gF g e; have := HCL.out.2.2; omega)
          · exact g2.chg gC (fun x hx e => by have h5 := gF _ e; have := (HAP.out (k + 1) x hx).2.2; omega)
          · exact g3.trans gC (fun i hi e => by have h5 := gF i e; omega)
        clear HOW hown4 hgrow e0 e1 e2
        go_wp2_with fail
        go_roundw
        case rel => exact ⟨k + 1, by omega, by simp, by rw [HO4.out.2], HO4.out.1⟩
        case measure => simp only [intOf]; omega
      | false =>
        have HANS := hid ha
        have hjc : j + 1 ≤ cap := by have := HCL.out.1; have := HN.out; omega
        have HSP : Hid (∀ q, q < 3 → ((wx.alloc (.cells #[.int .i64 xv, .int .i64 xo, .string xa] 67)).cell? ⟨g, 0 + j * 3 + q, none⟩).isSome = true ∧ (wx.alloc (.cells #[.int .i64 xv, .int .i64 xo, .string xa] 67)).frozen? ⟨g, 0 + j * 3 + q, none⟩ = false) := fun q hq => ⟨HR3.out.1.has _ (by omega), HR3.out.1.frozen _⟩
        have hpre := HR3.out.1.pre j (by have := HJ.out; simp; omega)
        have hpe : (sel (fun k => !ans k) (l.take k) ++ l.drop j).take j = sel (fun k => !ans k) (l.take k) := by rw [List.take_append_of_le_length (by rw [← HJ.out]; exact Nat.le_refl _), List.take_of_length_le (by rw [← HJ.out]; exact Nat.le_refl _)]
        rw [hpe] at hpre
        have hprc := hpre.row (B := 0) (Nat.zero_le _)
        unfold IsRow at hprc
        rw [← HJ.out] at hprc
        have HOW := hid hprc
        clear hpre hpe hprc
        have HO4 : Hid (TkR eS 67 w ((wx.alloc (.cells #[.int .i64 xv, .int .i64 xo, .string xa] 67)).setCells g (j * 3) [.int .i64 xv, .int .i64 xo, .string xa]) p o g cap l ans K row (k + 1) (.slice va n ca) ∧ (sel (fun k => !ans k) (l.take (k + 1))).length = j + 1) := by
          have hs := HT.out ans
          have hs2 := HT.out (fun k => !ans k)
          rw [HANS.out] at hs
          simp only [Bool.false_eq_true, if_false, List.append_nil] at hs
          have hs2' : sel (fun k => !ans k) (l.take (k + 1)) = sel (fun k => !ans k) (l.take k) ++ [⟨xv, xo, xa⟩] := by rw [hs2]; simp [HANS.out]
          obtain ⟨g1, g2, g3, g4⟩ := HR3.out
          have gC : Chg (fun k => k = g) (wx.alloc (.cells #[.int .i64 xv, .int .i64 xo, .string xa] 67)) ((wx.alloc (.cells #[.int .i64 xv, .int .i64 xo, .string xa] 67)).setCells g (j * 3) [.int .i64 xv, .int .i64 xo, .string xa]) := chg_setCells _ g _ _ _ rfl
          have hj1 : (sel (fun k => !ans k) (l.take k)).length = j := HJ.out.symm
          refine ⟨⟨?_, ?_, ?_, ?_⟩, by rw [hs2']; simp [hj1]⟩
          · rw [hs]
            exact g4.chg gC (fun b hb e => by have h5 := (g4.lt b hb).2; have := HCL.out.2.2; omega)
          · rw [hs2', List.length_append, hj1]
            have hset := g1.set (i := j) (by simp; omega) (⟨xv, xo, xa⟩ : En ByteArray)
            have hl9 : (sel (fun k => !ans k) (l.take k) ++ l.drop j).set j (⟨xv, xo, xa⟩ : En ByteArray) = sel (fun k => !ans k) (l.take k) ++ [⟨xv, xo, xa⟩] ++ l.drop (j + 1) := by
              rw [List.set_append_right _ _ (by omega), hj1, Nat.sub_self, List.drop_eq_getElem_cons (by omega : j < l.length), List.set_cons_zero]
              simp
            rw [hl9] at hset
            exact hset
          · exact g2.chg gC (fun x hx e => (HAP.out (k + 1) x hx).1 e)
          · exact g3.trans gC (fun i hi e => .inr e)
        go_wp2_with (at_builtin; refine wpList_append_arg _ rfl _ _ 64 rfl 67 i0 (.agg #[.int .i64 0, .int .i64 0, .string .empty]) 3 32 Try.underlying64 hi0 hz0 hz1 hz2 rfl (by decide) g 0 j cap (flat eS (sel (fun k => !ans k) (l.take k))) rfl ?c0 ?c1 ⟨wx.heap.size, 0, none⟩ 1 1 [.int .i64 xv, .int .i64 xo, .string xa] rfl rfl (World.news_of_block HB2.out) ?c2 ?c3 ?c4 ?c5 ?c6 ?c7)
        case c0 => exact HOW.out.1
        case c1 => intro q u hq; have := HOW.out.cells (g := g) rfl q u hq; rwa [Addr.add_lit] at this
        case c2 => intro u hu; simp at hu; rcases hu with rfl | rfl | rfl <;> rfl
        case c3 => intro _ q hq; exact HSP.out q (by simpa using hq)
        case c4 => unfold maxLen; omega
        case c5 => omega
        case c7 => intro hbad; omega
        go_roundw
        case rel => exact ⟨k + 1, by omega, by simp, by rw [HO4.out.2], HO4.out.1⟩
        case measure => simp only [intOf]; omega
    · have hki : ¬ (k : Int) < (N : Int) := by omega
      obtain rfl : k = N := by omega
      obtain ⟨h1, h2, h3, h4⟩ := hrel.out
      have htk : l.take k = l := by rw [HN.out]; exact List.take_length
      rw [htk] at h1 h2 hj HJ hsm
      rw [← hj] at h2
      have hpc := HPC.out wr h4
      have hcap := HCL.out.1
      have hkn := HN.out
      have c1 := hpc.1
      have c2 := hpc.2
      obtain ⟨va, ca, hva⟩ := ownsRow_slice h1
      subst hva
      have hgl := HCL.out.2.2
      have hp2 : ∀ (cs : Array Value) (t : TypeId), Box w p cs t → Box wr p cs t := fun cs t hb => hb.chg h4 (by rintro (h | h); exact (HRW.out p h).2.1 rfl; exact hpg h)
      have hpre := h2.pre j (by simp; omega)
      have hpe : (sel (fun k => !ans k) l ++ l.drop j).take j = sel (fun k => !ans k) l := by rw [List.take_append_of_le_length (by omega), List.take_of_length_le (by omega)]
      rw [hpe] at hpre
      have FIN : Hid (∀ u, Lay eS 67 u g cap (sel (fun k => !ans k) l) → Chg (fun k => k = g) wr u → ∃ vo, (Ending.returned (.slice va (sel ans l).length ca) : Ending) = .returned vo ∧ IsRow eS 67 (u.setCell ⟨p, o, none⟩ (.slice (some ⟨g, 0, none⟩) j cap)) w.heap.size vo (sel ans l) ∧ Lay eS 67 (u.setCell ⟨p, o, none⟩ (.slice (some ⟨g, 0, none⟩) j cap)) g cap (sel (fun k => !ans k) l) ∧
          (∀ cs t, Box w p cs t → Box (u.setCell ⟨p, o, none⟩ (.slice (some ⟨g, 0, none⟩) j cap)) p (cs.setIfInBounds o (.slice (some ⟨g, 0, none⟩) (sel (fun k => !ans k) l).length cap)) t) ∧ AllB (u.setCell ⟨p, o, none⟩ (.slice (some ⟨g, 0, none⟩) j cap)) (K l.length) ∧ Chg (fun k => row k ∨ k = p ∨ k = g) w (u.setCell ⟨p, o, none⟩ (.slice (some ⟨g, 0, none⟩) j cap))) := fun u hu hc => by
        have hc2 : Chg (fun k => k = p) u (u.setCell ⟨p, o, none⟩ (.slice (some ⟨g, 0, none⟩) j cap)) := (Chg.refl (fun k => k = p) u).setCell p o _ (fun _ => rfl)
        have hbs : ∀ b, (Value.slice va (sel ans l).length ca).ownBlock = some b → w.heap.size ≤ b := fun b hb => (h1.lt b hb).2
        refine ⟨_, rfl, (h1.chg hc (fun b hb e => by have := hbs b hb; omega)).chg hc2 (fun b hb e => by have := hbs b hb; omega), hu.chg hc2 (fun e => hpg e.symm), fun cs t hb => ?_, ?_, ?_⟩
        · have hb2 := ((hp2 cs t hb).chg hc (fun e => hpg e)).store o (.slice (some ⟨g, 0, none⟩) j cap)
          rw [← hj]; exact hb2
        · rw [← HN.out]
          exact (h3.chg hc (fun x hx e => (HAP.out k x hx).1 e)).chg hc2 (fun x hx e => (HAP.out k x hx).2.1 e)
        · exact ((Chg.mono h4 (S' := fun k => row k ∨ k = p ∨ k = g) (fun i _ e => by rcases e with e | e; exact .inl e; exact .inr (.inr e))).trans hc (fun i _ e => .inr (.inr e))).trans hc2 (fun i _ e => .inr (.inl e))
      by_cases hjk2 : j = k
      · have HF := hid (FIN.out wr hpre (Chg.refl _ _))
        have hclr := fun a c => clear_none 64 67 Try.underlying64 a c
        clear h1 h2 h3 h4 hrel hpre hpe hp2 FIN hsm hj htk HPC HCL HN hkn hltk HJ HAP HRW Hf hp hz
        generalize (sel ans l).length = n at *
        by_cases hcj : cap = j
        · subst hcj hjk2
          go_wp2_with fail
          go_ret
          exact HF.out
        · subst hjk2
          go_wp2_with fail
          go_ret
          exact HF.out
      · have hjN : j < k := by omega
        obtain ⟨vs, hvl, hclr⟩ := clear_some 64 67 i0 (.int .i64 0) (.int .i64 0) (.string .empty) Try.underlying64 hi0 hz0 rfl rfl rfl g (j * 3) (k - j) (cap - j) (by omega)
        have hclr := hclr wr (fun q hq => h2.has _ (by omega)) (fun q hq => h2.frozen _)
        have HF := hid (FIN.out _ (hpre.far vs (j * 3) wr (by rw [hj]; exact Nat.le_refl _)) (chg_setCells _ g vs (j * 3) wr rfl))
        have hpc2 := HPC.out (wr.setCells g (j * 3) vs) (h4.trans (chg_setCells (fun k => k = g) g vs (j * 3) wr rfl) (fun i _ e => .inr e))
        have c3 := hpc2.1
        have c4 := hpc2.2
        have hcj : ¬ cap = j := by omega
        have hki2 : (j : Int) ≤ (k : Int) := by omega
        have hki3 : j ≤ k := by omega
        have hki4 : (j : Int) ≤ (cap : Int) := by omega
        clear h1 h2 h3 h4 hrel hpre hpe hp2 FIN hsm hj htk HPC HCL HN hkn hltk HJ HAP HRW Hf hp hz hvl
        generalize (sel ans l).length = n at *
        go_wp2_with fail
        go_ret
        exact HF.out
end S
end Go.Proofs.Ytlbnilendcelkaa
