/-
  NestFirst's walk.
-/
import Derived.Test.YtbpbclmlkdnfbaaNFc
namespace Go.Proofs.Ytbpbclmlkdnfbaa.T
open Go.RowKit Go.Proofs.Ytbpbclmlkdnfbaa.C
def RdBl (w : World) (a : Option Addr) (ks : List Bool) : Prop :=
  0 < ks.length → ∃ b o, a = some ⟨b, o, none⟩ ∧ ∀ j (h : j < ks.length), w.cell? ⟨b, o + j, none⟩ = some (.bool ks[j])
/-- the place of the first that is true, or n -/
structure Wnt (ok : Nat → Bool) (n k : Nat) (z : Nat) : Prop where
  is : z < k ∧ ok z = true ∧ (∀ j, j < z → ok j = false) ∨ z = n ∧ ∀ j, j < k → ok j = false
theorem Wnt.no {ok : Nat → Bool} {n k z : Nat} (h : Wnt ok n k z) (hk : ok k = false) : Wnt ok n (k + 1) z := ⟨h.is.imp (fun h => ⟨by omega, h.2⟩) (fun h => ⟨h.1, fun j hj => by
  by_cases e : j < k
  · exact h.2 j e
  · have : j = k := by omega
    rw [this]; exact hk⟩)⟩
theorem Wnt.yes {ok : Nat → Bool} {n k z : Nat} (h : Wnt ok n k z) (hk : ok k = true) (hz : z = n) (hl : k < n) : Wnt ok n (k + 1) k := ⟨.inl ⟨by omega, hk, by
  rcases h.is with h | h
  · omega
  · exact h.2⟩⟩
theorem Wnt.old {ok : Nat → Bool} {n k z : Nat} (h : Wnt ok n k z) (hz : z ≠ n) : Wnt ok n (k + 1) z := ⟨by
  rcases h.is with h | h
  · exact .inl ⟨by omega, h.2⟩
  · exact absurd h.1 hz⟩
theorem infoFn : (Try.prog.info? 46).map (fun i => (i.zero, i.size, i.bytes)) = some (some .nilFunc, 1, 8) := by kernel_rfl
set_option maxHeartbeats 4000000 in
set_option maxRecDepth 100000 in
theorem first17_at (w : World) (a : Option Addr) (N c : Nat) (ks : List Bool) (hl : ks.length = N) (hr : RdBl w a ks) (hc : N ≤ c) : Calls Try.prog 8 #[.slice a N c] w fun r w' => r = .returned (.bool true) ∧ Below w.heap.size w w' := by
  have hmf : ∀ (fn : Fn) (first cap : Array Value) (w : World), (Instr.makeFunc fn first cap).run Try.prog w = .ok (.func fn first cap) w := fun _ _ _ _ => rfl
  have cn := hg_new (n := 8) (Below.refl w.heap.size w) (by omega) (by omega)
  unfold ptr at cn
  go_enter Try.func8, Try.ntmps8
  go_wp2_with fail
  refine Calls.mono cn ?_
  rintro e w1 ⟨m, gm, rfl, h, _⟩
  have c2 := h.begin (V := fun _ => False) 1 (by omega) (by omega)
  unfold ptr at c2
  clear h cn
  go_wp2_with fail
  refine Calls.mono c2 ?_
  rintro e w2 ⟨g, rfl, t⟩
  obtain ⟨n, hn⟩ : ∃ n, n = min N 8 := ⟨_, rfl⟩
  have hmin : min (N : Int) 8 = (n : Int) := by omega
  have hmax : max (n : Int) 0 = (n : Int) := by omega
  have hn8 : n ≤ 8 := by omega
  have hnN : n ≤ N := by omega
  obtain ⟨ok, hok⟩ : ∃ ok : Nat → Bool, ok = fun j => ks.getD j false := ⟨_, rfl⟩
  have HR : Hid (∀ k u, k < n → Below w.heap.size w u → ∃ b o, a = some ⟨b, o, none⟩ ∧ u.cell? ⟨b, o + k, none⟩ = some (.bool (ok k))) := fun k u hk hb => by
    obtain ⟨b, o, e, hcell⟩ := hr (by omega)
    have h1 := hcell k (by omega)
    refine ⟨b, o, e, ?_⟩
    have hlt : b < w.heap.size := by
      rcases Nat.lt_or_ge b w.heap.size with h | h
      · exact h
      · exfalso
        have : w.heap[b]? = none := by simp; exact h
        simp [World.cell?, this] at h1
    rw [hb.cell (p := ⟨b, o + k, none⟩) hlt, h1, hok]
    simp [List.getD, show k < ks.length by omega]
  clear hr hok hn hl
  go_upto_region 9 with fail
  try simp only [hmin, Int.toNat_natCast, hmax]
  obtain ⟨w4, hw4⟩ : ∃ w4, w4 = (w2.alloc (.cells #[.pointer (some ⟨g, 0, none⟩)] 42)).alloc (.cells #[.int .i64 0] 3) := ⟨_, rfl⟩
  have s1 : (w2.alloc (.cells #[.pointer (some ⟨g, 0, none⟩)] 42)).heap.size = w2.heap.size + 1 := by simp
  have b2 := Box.new (w2.alloc (.cells #[.pointer (some ⟨g, 0, none⟩)] 42)) #[.int .i64 0] 3
  rw [s1, ← hw4] at b2
  have b1 : Box w4 w2.heap.size #[.pointer (some ⟨g, 0, none⟩)] 42 := by rw [hw4]; exact (Box.new w2 _ 42).alloc _
  have hg4 := (t.has.alloc (.cells #[.pointer (some ⟨g, 0, none⟩)] 42)).alloc (.cells #[.int .i64 0] 3)
  rw [← hw4] at hg4 ⊢
  have hs2 := t.has.mm.hB
  obtain ⟨G, hG0⟩ : ∃ G : Nat → Prop, Hg w w4 m gm gS [(g, gX)] G ∧ ∀ y, G y → y < w2.heap.size := ⟨_, hg4, fun y hy => t.has.lt hy⟩
  have H4 : Hid (Hg w w4 m gm gS [(g, gX)] G ∧ (∀ y, G y → y < w2.heap.size) ∧ Box w4 w2.heap.size #[.pointer (some ⟨g, 0, none⟩)] 42 ∧ Box w4 (w2.heap.size + 1) #[.int .i64 0] 3 ∧ w.heap.size ≤ w2.heap.size) := ⟨hG0.1, hG0.2, b1, b2, hs2⟩
  clear hw4 s1 b2 b1 hg4 hs2 hG0 t c2
  obtain ⟨cb, hcb⟩ : ∃ cb, cb = w2.heap.size + 1 := ⟨_, rfl⟩
  obtain ⟨tb, htb⟩ : ∃ tb, tb = w2.heap.size := ⟨_, rfl⟩
  rw [← hcb, ← htb] at H4 ⊢
  have HCT : Hid (tb < w4.heap.size ∧ cb < w4.heap.size ∧ cb = tb + 1) := ⟨H4.out.2.2.1.lt, H4.out.2.2.2.1.lt, by omega⟩
  clear hcb htb
  obtain ⟨i0, hi0, hz0, hz1, hz2⟩ := info_parts infoFn
  go_wp2_with fail
  go_loopw [7, 8, 35] (fun z v i u => ∃ k : Nat, k ≤ n ∧ i = .int .i64 (k : Int) ∧ ∃ zz : Nat, z = .int .i64 (zz : Int) ∧ Wnt ok n k zz ∧ ∃ vs, FB w4 u cb tb ok v k vs ∧ (k = 0 → v = .slice none 0 0)) (fun _ _ i _ => n - (civ i).toNat)
  case atStart => exact ⟨0, Nat.zero_le _, rfl, n, rfl, ⟨.inr ⟨rfl, fun j hj => by omega⟩⟩, [], FB.nil _ _ _ _, fun _ => rfl⟩
  case round =>
    obtain ⟨k, hk, rfl, zz, rfl, hW, vs, hFB, hk0⟩ := hrel
    obtain ⟨av, cv, hv⟩ := ownsRow_slice hFB.row
    subst hv
    have HV : Hid (FB w4 wr cb tb ok (.slice av k cv) k vs) := hFB
    have HZ : Hid (Wnt ok n k zz) := hW
    have HK0 : Hid (k = 0 → Value.slice av k cv = .slice none 0 0) := hk0
    clear hFB hW hk0
    by_cases hlt : k < n
    · have hki : (k : Int) < (n : Int) := by omega
      obtain ⟨ba, oa, rfl, hcell⟩ := HR.out k wr hlt (H4.out.1.bel.trans (HV.out.bel.mono (H4.out.1.mm.hB)))
      have HB : Hid (Box (((wr.alloc (.cells #[.int .i64 (k : Int)] 3)).alloc (.cells #[.bool (ok k)] 4)).alloc (.cells #[.func (.func 32) #[] #[.pointer (some ⟨cb, 0, none⟩), .pointer (some ⟨tb, 0, none⟩), .pointer (some ⟨wr.heap.size, 0, none⟩), .pointer (some ⟨wr.heap.size + 1, 0, none⟩)]] 46)) (wr.heap.size + 1 + 1) #[.func (.func 32) #[] #[.pointer (some ⟨cb, 0, none⟩), .pointer (some ⟨tb, 0, none⟩), .pointer (some ⟨wr.heap.size, 0, none⟩), .pointer (some ⟨wr.heap.size + 1, 0, none⟩)]] 46 ∧ Box (((wr.alloc (.cells #[.int .i64 (k : Int)] 3)).alloc (.cells #[.bool (ok k)] 4)).alloc (.cells #[.func (.func 32) #[] #[.pointer (some ⟨cb, 0, none⟩), .pointer (some ⟨tb, 0, none⟩), .pointer (some ⟨wr.heap.size, 0, none⟩), .pointer (some ⟨wr.heap.size + 1, 0, none⟩)]] 46)) wr.heap.size #[.int .i64 (k : Int)] 3 ∧ Box (((wr.alloc (.cells #[.int .i64 (k : Int)] 3)).alloc (.cells #[.bool (ok k)] 4)).alloc (.cells #[.func (.func 32) #[] #[.pointer (some ⟨cb, 0, none⟩), .pointer (some ⟨tb, 0, none⟩), .pointer (some ⟨wr.heap.size, 0, none⟩), .pointer (some ⟨wr.heap.size + 1, 0, none⟩)]] 46)) (wr.heap.size + 1) #[.bool (ok k)] 4 ∧ Below wr.heap.size wr (((wr.alloc (.cells #[.int .i64 (k : Int)] 3)).alloc (.cells #[.bool (ok k)] 4)).alloc (.cells #[.func (.func 32) #[] #[.pointer (some ⟨cb, 0, none⟩), .pointer (some ⟨tb, 0, none⟩), .pointer (some ⟨wr.heap.size, 0, none⟩), .pointer (some ⟨wr.heap.size + 1, 0, none⟩)]] 46))) := by
        have s1 : (wr.alloc (.cells #[.int .i64 (k : Int)] 3)).heap.size = wr.heap.size + 1 := by simp
        have s2 : ((wr.alloc (.cells #[.int .i64 (k : Int)] 3)).alloc (.cells #[.bool (ok k)] 4)).heap.size = wr.heap.size + 1 + 1 := by simp
        have x1 := Box.new ((wr.alloc (.cells #[.int .i64 (k : Int)] 3)).alloc (.cells #[.bool (ok k)] 4)) #[.func (.func 32) #[] #[.pointer (some ⟨cb, 0, none⟩), .pointer (some ⟨tb, 0, none⟩), .pointer (some ⟨wr.heap.size, 0, none⟩), .pointer (some ⟨wr.heap.size + 1, 0, none⟩)]] 46
        have x2 := (Box.new (wr.alloc (.cells #[.int .i64 (k : Int)] 3)) #[.bool (ok k)] 4).alloc (.cells #[.func (.func 32) #[] #[.pointer (some ⟨cb, 0, none⟩), .pointer (some ⟨tb, 0, none⟩), .pointer (some ⟨wr.heap.size, 0, none⟩), .pointer (some ⟨wr.heap.size + 1, 0, none⟩)]] 46)
        rw [s2] at x1
        rw [s1] at x2
        exact ⟨x1, ((Box.new wr _ 3).alloc _).alloc _, x2, (((Below.refl wr.heap.size wr).alloc (Nat.le_refl _) _).alloc (by simp) _).alloc (by simp; omega) _⟩
      cases hokk : ok k with
      | false =>
        rw [hokk] at hcell HB
        go_wp2_with (first
          | (at_builtin
             refine wpList_append_own_at _ rfl _ _ 59 rfl w4.heap.size 46 i0 .nilFunc 1 8 Try.underlying59 hi0 hz0 hz1 hz2 rfl (by decide) _ k _ rfl (ownsRow_below HV.out.row HB.out.2.2.2.block) ⟨wr.heap.size + 1 + 1, 0, none⟩ 1 1 [.func (.func 32) #[] #[.pointer (some ⟨cb, 0, none⟩), .pointer (some ⟨tb, 0, none⟩), .pointer (some ⟨wr.heap.size, 0, none⟩), .pointer (some ⟨wr.heap.size + 1, 0, none⟩)]] rfl rfl (World.news_of_block (cs := #[.func (.func 32) #[] #[.pointer (some ⟨cb, 0, none⟩), .pointer (some ⟨tb, 0, none⟩), .pointer (some ⟨wr.heap.size, 0, none⟩), .pointer (some ⟨wr.heap.size + 1, 0, none⟩)]]) (t := 46) (fr := (0, 0)) HB.out.1) (by intro u hu; simp at hu; subst hu; rfl) (by unfold maxLen; omega) (by omega) (by have := HV.out.bel.size; have := HB.out.2.2.2.size; omega) ?_
             intro v' w5 hown' hgrow hnil hloc
             obtain ⟨a', c', rfl⟩ := ownsRow_slice hown'
             have HW : Hid (w5.ownsRow w4.heap.size 46 1 (.slice a' (k + 1) c') (k + 1) (vs ++ [.func (.func 32) #[] #[.pointer (some ⟨cb, 0, none⟩), .pointer (some ⟨tb, 0, none⟩), .pointer (some ⟨wr.heap.size, 0, none⟩), .pointer (some ⟨wr.heap.size + 1, 0, none⟩)]]) ∧ World.grownBy (((wr.alloc (.cells #[.int .i64 (k : Int)] 3)).alloc (.cells #[.bool false] 4)).alloc (.cells #[.func (.func 32) #[] #[.pointer (some ⟨cb, 0, none⟩), .pointer (some ⟨tb, 0, none⟩), .pointer (some ⟨wr.heap.size, 0, none⟩), .pointer (some ⟨wr.heap.size + 1, 0, none⟩)]] 46)) w5 (Value.slice av k cv).ownBlock) := ⟨hown', hgrow⟩
             clear hown' hgrow hnil hloc)
          | go_in)
        go_roundw
        case rel =>
          exact ⟨k + 1, by omega, by simp, zz, rfl, Wnt.no HZ.out hokk, _, HV.out.add HB.out.2.2.2 (Nat.le_refl _) (by omega) HB.out.2.1 (by rw [hokk]; exact HB.out.2.2.1) HW.out.1 HW.out.2, fun h => by omega⟩
        case measure => simp only [civ]; omega
      | true =>
        rw [hokk] at hcell HB
        by_cases hzn : zz = n
        · have hzn' : ((zz : Int) == (n : Int)) = true := by simp; omega
          go_wp2_with (first
            | (at_builtin
               refine wpList_append_own_at _ rfl _ _ 59 rfl w4.heap.size 46 i0 .nilFunc 1 8 Try.underlying59 hi0 hz0 hz1 hz2 rfl (by decide) _ k _ rfl (ownsRow_below HV.out.row HB.out.2.2.2.block) ⟨wr.heap.size + 1 + 1, 0, none⟩ 1 1 [.func (.func 32) #[] #[.pointer (some ⟨cb, 0, none⟩), .pointer (some ⟨tb, 0, none⟩), .pointer (some ⟨wr.heap.size, 0, none⟩), .pointer (some ⟨wr.heap.size + 1, 0, none⟩)]] rfl rfl (World.news_of_block (cs := #[.func (.func 32) #[] #[.pointer (some ⟨cb, 0, none⟩), .pointer (some ⟨tb, 0, none⟩), .pointer (some ⟨wr.heap.size, 0, none⟩), .pointer (some ⟨wr.heap.size + 1, 0, none⟩)]]) (t := 46) (fr := (0, 0)) HB.out.1) (by intro u hu; simp at hu; subst hu; rfl) (by unfold maxLen; omega) (by omega) (by have := HV.out.bel.size; have := HB.out.2.2.2.size; omega) ?_
               intro v' w5 hown' hgrow hnil hloc
               obtain ⟨a', c', rfl⟩ := ownsRow_slice hown'
               have HW : Hid (w5.ownsRow w4.heap.size 46 1 (.slice a' (k + 1) c') (k + 1) (vs ++ [.func (.func 32) #[] #[.pointer (some ⟨cb, 0, none⟩), .pointer (some ⟨tb, 0, none⟩), .pointer (some ⟨wr.heap.size, 0, none⟩), .pointer (some ⟨wr.heap.size + 1, 0, none⟩)]]) ∧ World.grownBy (((wr.alloc (.cells #[.int .i64 (k : Int)] 3)).alloc (.cells #[.bool true] 4)).alloc (.cells #[.func (.func 32) #[] #[.pointer (some ⟨cb, 0, none⟩), .pointer (some ⟨tb, 0, none⟩), .pointer (some ⟨wr.heap.size, 0, none⟩), .pointer (some ⟨wr.heap.size + 1, 0, none⟩)]] 46)) w5 (Value.slice av k cv).ownBlock) := ⟨hown', hgrow⟩
               clear hown' hgrow hnil hloc)
            | go_in)
          go_roundw
          case rel =>
            exact ⟨k + 1, by omega, by simp, k, rfl, Wnt.yes HZ.out hokk hzn hlt, _, HV.out.add HB.out.2.2.2 (Nat.le_refl _) (by omega) HB.out.2.1 (by rw [hokk]; exact HB.out.2.2.1) HW.out.1 HW.out.2, fun h => by omega⟩
          case measure => simp only [civ]; omega
        · have hzn' : ((zz : Int) == (n : Int)) = false := by simp; omega
          go_wp2_with (first
            | (at_builtin
               refine wpList_append_own_at _ rfl _ _ 59 rfl w4.heap.size 46 i0 .nilFunc 1 8 Try.underlying59 hi0 hz0 hz1 hz2 rfl (by decide) _ k _ rfl (ownsRow_below HV.out.row HB.out.2.2.2.block) ⟨wr.heap.size + 1 + 1, 0, none⟩ 1 1 [.func (.func 32) #[] #[.pointer (some ⟨cb, 0, none⟩), .pointer (some ⟨tb, 0, none⟩), .pointer (some ⟨wr.heap.size, 0, none⟩), .pointer (some ⟨wr.heap.size + 1, 0, none⟩)]] rfl rfl (World.news_of_block (cs := #[.func (.func 32) #[] #[.pointer (some ⟨cb, 0, none⟩), .pointer (some ⟨tb, 0, none⟩), .pointer (some ⟨wr.heap.size, 0, none⟩), .pointer (some ⟨wr.heap.size + 1, 0, none⟩)]]) (t := 46) (fr := (0, 0)) HB.out.1) (by intro u hu; simp at hu; subst hu; rfl) (by unfold maxLen; omega) (by omega) (by have := HV.out.bel.size; have := HB.out.2.2.2.size; omega) ?_
               intro v' w5 hown' hgrow hnil hloc
               obtain ⟨a', c', rfl⟩ := ownsRow_slice hown'
               have HW : Hid (w5.ownsRow w4.heap.size 46 1 (.slice a' (k + 1) c') (k + 1) (vs ++ [.func (.func 32) #[] #[.pointer (some ⟨cb, 0, none⟩), .pointer (some ⟨tb, 0, none⟩), .pointer (some ⟨wr.heap.size, 0, none⟩), .pointer (some ⟨wr.heap.size + 1, 0, none⟩)]]) ∧ World.grownBy (((wr.alloc (.cells #[.int .i64 (k : Int)] 3)).alloc (.cells #[.bool true] 4)).alloc (.cells #[.func (.func 32) #[] #[.pointer (some ⟨cb, 0, none⟩), .pointer (some ⟨tb, 0, none⟩), .pointer (some ⟨wr.heap.size, 0, none⟩), .pointer (some ⟨wr.heap.size + 1, 0, none⟩)]] 46)) w5 (Value.slice av k cv).ownBlock) := ⟨hown', hgrow⟩
               clear hown' hgrow hnil hloc)
            | go_in)
          go_roundw
          case rel =>
            exact ⟨k + 1, by omega, by simp, zz, rfl, Wnt.old HZ.out hzn, _, HV.out.add HB.out.2.2.2 (Nat.le_refl _) (by omega) HB.out.2.1 (by rw [hokk]; exact HB.out.2.2.1) HW.out.1 HW.out.2, fun h => by omega⟩
          case measure => simp only [civ]; omega
    · have hkn : k = n := by omega
      subst k
      have hg5 := H4.out.1.below HV.out.bel
      have bt5 := H4.out.2.2.1.below HV.out.bel H4.out.2.2.1.lt
      have bc5 := H4.out.2.2.2.1.below HV.out.bel H4.out.2.2.2.1.lt
      have ct5 := bt5.cell 0
      have cc5 := bc5.cell 0
      simp only [List.getElem?_toArray, List.getElem?_cons_zero] at ct5 cc5
      by_cases h0 : n = 0
      · have hz0' : zz = 0 := by
          rcases HZ.out.is with h | h <;> omega
        subst hz0'
        have hv0 := HK0.out h0
        subst h0
        rw [hv0]
        have cf := first_none hg5 rfl
        have cw := hg5.writes (j := 0) rfl
        have HG5 : Hid (Hg w wr m gm gS [(g, gX)] G) := hg5
        have hW0 : gX.S.W.length = 0 := rfl
        rw [hW0] at cw
        unfold ptr at cf cw
        clear hg5 bt5 bc5 hW0
        go_wp2_with (first | (go_at_call 18; refine cf.mono ?_; rintro e wx ⟨rfl, hwx⟩; subst wx) | (go_at_call 33; refine cw.mono ?_; rintro e w7 ⟨v7, rfl, hrow, hb7⟩; obtain ⟨a7, c7, rfl⟩ := ownsRow_slice hrow; have HB7 : Hid (Below w.heap.size w w7) := HG5.out.bel.trans (hb7.mono HG5.out.mm.hB); clear hrow hb7) | (go_at_call 24; refine (awake17_at _).mono ?_; rintro e' u1 ⟨rfl, k8⟩))
        go_ret
        exact ⟨rfl, HB7.out.trans (k8.mono HB7.out.size)⟩
      · obtain ⟨q, cap, e1, _⟩ := ownsRow_cell HV.out.row 0 (by omega)
        have hF := HV.out
        rw [e1] at hF ⊢
        have cf := fb_first hg5 hF (by omega) hn8 bc5 bt5 (fun y hy hg => by have := H4.out.2.1 y hg; have := HCT.out; omega) (fun hg => by have := H4.out.2.1 _ hg; have := HCT.out; omega) (fun hg => by have := H4.out.2.1 _ hg; omega) HCT.out.2.1 (by have := H4.out.2.2.2.2; have := HCT.out; omega)
        have HG5 : Hid (Hg w wr m gm gS [(g, gX)] G ∧ Box wr tb #[ptr g] 42) := ⟨hg5, bt5⟩
        unfold ptr at cf
        clear hg5 bt5 bc5 hF e1
        go_wp2_with fail
        refine cf.mono ?_
        rintro r w6 ⟨k2, e2, z, rfl, t6, hf⟩
        have bt6 := Box.upd HG5.out.2 t6.upd (fun hg => hg.elim (fun hg => by have := H4.out.2.1 _ hg; omega) (fun e => by have := HCT.out; omega))
        have ct6 := bt6.cell 0
        simp only [List.getElem?_toArray, List.getElem?_cons_zero] at ct6
        unfold ptr at ct6
        have cw := t6.has.writes (j := 0) rfl
        have HB6 : Hid (Below w.heap.size w w6) := t6.has.bel
        rcases hf with ⟨hk2, rfl, rfl, bc6, o1, o2⟩ | ⟨rfl, he2, rfl, bc6, o⟩
        · have hzk : zz = k2 := by
            rcases HZ.out.is with ⟨h1, h2, h3⟩ | ⟨h1, h2⟩
            · rcases Nat.lt_trichotomy zz k2 with h | h | h
              · rw [o2 zz h] at h2; cases h2
              · exact h
              · rw [h3 k2 h] at o1; cases o1
            · rw [h2 k2 hk2] at o1; cases o1
          subst hzk
          have cc6 := bc6.cell 0
          simp only [List.getElem?_toArray, List.getElem?_cons_zero] at cc6
          have hm2 : min ((zz : Int) + 1) (n : Int) = (zz : Int) + 1 := by omega
          have hki : (zz : Int) < (n : Int) := by omega
          have hsrt : zcs (srt (kys (gK (zz : Int) []).S.W)) = [.int .i64 (zz : Int)] := by
            show zcs (srt [(zz : Int)]) = _
            have : srt [(zz : Int)] = [(zz : Int)] := by unfold srt; exact List.mergeSort_of_pairwise (by simp)
            rw [this]; rfl
          have hW1 : (gK (zz : Int) []).S.W.length = 1 := rfl
          rw [hsrt, hW1] at cw
          unfold ptr at cw
          clear t6 bt6 bc6 o1 o2 hsrt hW1 cf
          go_wp2_with (first | (go_at_call 33; refine cw.mono ?_; rintro e w7 ⟨v7, rfl, hrow, hb7⟩; obtain ⟨g7, c7, rfl, hc7⟩ := ownsRow_cell hrow 0 (by omega); simp only [List.getElem?_cons_zero] at hc7; have HB7 : Hid (Below w.heap.size w w7) := HB6.out.trans (hb7.mono HB6.out.size); clear hrow hb7) | (go_at_call 24; refine (awake17_at _).mono ?_; rintro e' u1 ⟨rfl, k8⟩))
          go_ret
          exact ⟨rfl, HB7.out.trans (k8.mono HB7.out.size)⟩
        · have hzk : zz = k2 := by
            rcases HZ.out.is with ⟨h1, h2, h3⟩ | ⟨h1, h2⟩
            · rw [o zz h1] at h2; cases h2
            · exact h1
          subst hzk
          have cc6 := bc6.cell 0
          simp only [List.getElem?_toArray, List.getElem?_cons_zero] at cc6
          have hm2 : min ((zz : Int) + 1) (zz : Int) = (zz : Int) := by omega
          have he' : (e2 == 0) = false := by simpa using he2
          have he'' : (e2 != 0) = true := by simpa using he2
          have hW1 : gX.S.W.length = 0 := rfl
          rw [hW1] at cw
          unfold ptr at cw
          clear t6 bt6 bc6 o hW1 cf
          go_wp2_with (first | (go_at_call 33; refine cw.mono ?_; rintro e w7 ⟨v7, rfl, hrow, hb7⟩; obtain ⟨a7, c7, rfl⟩ := ownsRow_slice hrow; have HB7 : Hid (Below w.heap.size w w7) := HB6.out.trans (hb7.mono HB6.out.size); clear hrow hb7) | (go_at_call 24; refine (awake17_at _).mono ?_; rintro e' u1 ⟨rfl, k8⟩))
          go_ret
          exact ⟨rfl, HB7.out.trans (k8.mono HB7.out.size)⟩
end Go.Proofs.Ytbpbclmlkdnfbaa.T
