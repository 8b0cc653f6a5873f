/-
  WaitWakes: cells that are published, by a closure. WaitWakes' walk.
-/
import Derived.Test.YtafiopjgegmfoaaGreatWWk
import Derived.Deep.RegionHeld3
import Derived.Deep.CutBlock
namespace Go.Proofs.YtafiopjgegmfoaaGreat.W
open Go.RowKit Go.Maps Go.Proofs.YtafiopjgegmfoaaGreat Go.Proofs.YtafiopjgegmfoaaGreat.C Go.Proofs.YtafiopjgegmfoaaGreat.T
def wK (mb hb ib m im : Nat) (hit : Bool) : Own := [(hb, #[.bool hit], 4), (ib, #[.map (some im)], 45), (mb, #[ptr m], 26)]
section
variable {w0 u u' : World} {m gm g wb im n mb hb ib kk : Nat} {S S' : M} {P P' : Wts} {L : List (Int × Bool)} {R : List (Int × Int)}
theorem wk_cells {hit : Bool} {l : List (Nat × TX)} (h : Wk w0 u m gm S l wb P (wK mb hb ib m im hit) im L) : u.cell? ⟨mb, 0, none⟩ = some (ptr m) ∧ u.cell? ⟨hb, 0, none⟩ = some (.bool hit) ∧ u.cell? ⟨ib, 0, none⟩ = some (.map (some im)) ∧ u.frozen? ⟨hb, 0, none⟩ = false :=
  ⟨(h.own (b := mb) (cs := #[ptr m]) (t := 26) (by simp [wK])).cell 0, (h.own (b := hb) (cs := #[.bool hit]) (t := 4) (by simp [wK])).cell 0, (h.own (b := ib) (cs := #[.map (some im)]) (t := 45) (by simp [wK])).cell 0, (h.own (b := hb) (cs := #[.bool hit]) (t := 4) (by simp [wK])).frozen 0⟩
theorem wk_hit {hit : Bool} {l : List (Nat × TX)} (h : Wk w0 u m gm S l wb P (wK mb hb ib m im hit) im L) (z : Bool) : Wk w0 (u.setCell ⟨hb, 0, none⟩ (.bool z)) m gm S l wb P (wK mb hb ib m im z) im L :=
  Wk.put h (fun q hq => by
    simp only [List.mem_cons, List.not_mem_nil, or_false] at hq
    rcases hq with rfl | rfl
    · exact (show (45 : Nat) ≠ 4 by decide)
    · exact (show (26 : Nat) ≠ 4 by decide)) 0 (.bool z)
set_option maxHeartbeats 4000000 in
set_option maxRecDepth 100000 in
theorem pub_at {l : List (Nat × TX)} {zs : List Int} {a : Option Addr} {N cap : Nat} (h : Wk w0 u m gm S l wb P (wK mb hb ib m im (hitB S R)) im L) (hp : Pb S n) (hr : Rg R L kk) (hn : n ≤ 20) (hz : RdI w0 a zs) (hN : zs.length = N) :
    Calls Tryz.prog 19 #[.slice a N cap, ptr mb, ptr hb, ptr ib] u fun r u' => r = .returned (.bool true) ∧ ∃ S' n', n' ≤ n + 10 ∧ Pb S' n' ∧ Wk w0 u' m gm S' l wb P (wK mb hb ib m im (hitB S' R)) im L := by
  have H0 : Hid (Wk w0 u m gm S l wb P (wK mb hb ib m im (hitB S R)) im L ∧ Pb S n) := ⟨h, hp⟩
  have HR : Hid (Rg R L kk) := hr
  have HZ : Hid (RdI w0 a zs ∧ zs.length = N) := ⟨hz, hN⟩
  clear h hp hr hz hN
  unfold ptr at *
  go_enter Tryz.func19, Tryz.ntmps19
  go_wp2_with fail
  go_loopw [6] (fun i wr => ∃ k : Nat, k ≤ 10 ∧ i = .int .i64 (k : Int) ∧ ∃ S', Pb S' (n + k) ∧ Wk w0 wr m gm S' l wb P (wK mb hb ib m im (hitB S' R)) im L) (fun i _ => 10 - (civ i).toNat)
  case atStart => exact ⟨0, Nat.zero_le _, rfl, S, H0.out.2, H0.out.1⟩
  case round =>
    obtain ⟨k, hk, rfl, S1, hp, hw⟩ := hrel
    have HP : Hid (Pb S1 (n + k)) := hp
    have HW : Hid (Wk w0 wr m gm S1 l wb P (wK mb hb ib m im (hitB S1 R)) im L) := hw
    clear hp hw
    by_cases hlt : k < N ∧ k < 10
    · have h1 : (k : Int) < (N : Int) := by omega
      have h2 : (k : Int) < 10 := by omega
      obtain ⟨b, o, rfl, hc⟩ := HZ.out.1 (by have := HZ.out.2; omega)
      have hcw := (HZ.out.1.below HW.out.bel (Nat.le_refl _)) (by have := HZ.out.2; omega)
      obtain ⟨b', o', e, hcw⟩ := hcw
      injection e with e
      injection e with e1 e2
      subst e1 e2
      have cz := hcw k (by have := HZ.out.2; omega)
      generalize (zs[k]'(by have := HZ.out.2; omega)) = z at cz
      clear hc hcw
      have cp := pick_at z 6 wr (by omega) (by omega)
      obtain ⟨c, hcc⟩ : ∃ c, c = z % 6 := ⟨_, rfl⟩
      have hc6 : 0 ≤ c ∧ c < 6 := by omega
      rw [← hcc] at cp
      clear hcc
      obtain ⟨c1, _⟩ := wk_cells HW.out
      have cA := HW.out.adv (HP.out.adv (by omega))
      obtain ⟨sk, hsk⟩ : ∃ sk, sk = S1.k + 1 := ⟨_, rfl⟩
      have HSK : Hid (sk = S1.k + 1) := hsk
      rw [← hsk] at cA
      unfold ptr at c1 cA
      clear hsk
      go_wp2_with fail
      refine Calls.mono cp ?_
      rintro e wx ⟨rfl, hwx⟩
      subst wx
      clear cp
      go_wp2_with fail
      refine Calls.mono cA ?_
      rintro e w1 ⟨rfl, hw1⟩
      obtain ⟨q, hq, hlk⟩ := HP.out.lock c hc6
      obtain ⟨c1, _⟩ := wk_cells hw1
      rw [HSK.out] at hw1
      have cL := hw1.lock c 9 hlk
      unfold ptr at c1 cL
      clear cA hw1
      go_wp2_with fail
      refine Calls.mono cL ?_
      rintro e w2 ⟨rfl, hw2⟩
      obtain ⟨c1, _⟩ := wk_cells hw2
      have cPb := hw2.publish c 9 (k : Int) (S1.k + 1) (HP.out.publish c (k : Int) hc6 hq)
      rw [← HSK.out] at cPb
      unfold ptr at c1 cPb
      clear cL hw2 hlk hq
      go_wp2_with fail
      refine Calls.mono cPb ?_
      rintro e w3 ⟨rfl, hw3⟩
      obtain ⟨_, c2, c3, f2⟩ := wk_cells hw3
      have cLk := hw3.look c (WalkArith.wf_i64 (by omega))
      rw [HR.out.look c] at cLk
      have HX : Hid (Wk w0 (w3.setCell ⟨hb, 0, none⟩ (.bool (hitB S1 R || (gt R c).isSome))) m gm (pub1 S1 c (k : Int)) l wb P (wK mb hb ib m im (hitB (pub1 S1 c (k : Int)) R)) im L ∧ Pb (pub1 S1 c (k : Int)) (n + (k + 1))) := by
        refine ⟨?_, HP.out.next c (k : Int)⟩
        rw [hitB_next HP.out R c (k : Int) hc6 HR.out.six]
        exact wk_hit hw3 _
      clear cPb hw3
      generalize (gt R c).isSome = y at *
      cases hh : hitB S1 R with
      | true =>
        rw [hh] at c2 HX
        have HX2 : Hid (Wk w0 (w3.setCell ⟨hb, 0, none⟩ (.bool true)) m gm (pub1 S1 c (k : Int)) l wb P (wK mb hb ib m im (hitB (pub1 S1 c (k : Int)) R)) im L ∧ Pb (pub1 S1 c (k : Int)) (n + (k + 1))) := HX
        clear HX hh
        go_wp2_with fail
        go_roundw
        case rel => exact ⟨k + 1, by omega, by go_num, _, HX2.out.2, HX2.out.1⟩
        case measure => simp [civ]; omega
      | false =>
        rw [hh] at c2 HX
        have HX2 : Hid (Wk w0 (w3.setCell ⟨hb, 0, none⟩ (.bool y)) m gm (pub1 S1 c (k : Int)) l wb P (wK mb hb ib m im (hitB (pub1 S1 c (k : Int)) R)) im L ∧ Pb (pub1 S1 c (k : Int)) (n + (k + 1))) := HX
        clear HX hh
        go_wp2_with fail
        go_roundw
        case rel => exact ⟨k + 1, by omega, by go_num, _, HX2.out.2, HX2.out.1⟩
        case measure => simp [civ]; omega
    · have HF : Hid (∃ S' n', n' ≤ n + 10 ∧ Pb S' n' ∧ Wk w0 wr m gm S' l wb P (wK mb hb ib m im (hitB S' R)) im L) := ⟨S1, n + k, by omega, HP.out, HW.out⟩
      by_cases hN' : k < N
      · have h1 : (k : Int) < (N : Int) := by omega
        have h2 : ¬ (k : Int) < 10 := by omega
        clear HW HP
        go_wp2_with fail
        go_ret
        exact ⟨rfl, HF.out⟩
      · have h1 : ¬ (k : Int) < (N : Int) := by omega
        clear HW HP
        go_wp2_with fail
        go_ret
        exact ⟨rfl, HF.out⟩
end
end Go.Proofs.YtafiopjgegmfoaaGreat.W
namespace Go.Proofs.YtafiopjgegmfoaaGreat.W
open Go.RowKit Go.Maps Go.Proofs.YtafiopjgegmfoaaGreat Go.Proofs.YtafiopjgegmfoaaGreat.C Go.Proofs.YtafiopjgegmfoaaGreat.T
section
variable {w0 u u' : World} {m gm g wb im n mb hb ib kk : Nat} {S S' : M} {P P' : Wts} {L : List (Int × Bool)} {R : List (Int × Int)} {K : Own} {l : List (Nat × TX)}
theorem hw_newB {G : Nat → Prop} (h : Hg w0 u m gm S l G) (hK : ∀ b ∈ K, Box u b.1 b.2.1 b.2.2 ∧ ¬ G b.1 ∧ w0.heap.size ≤ b.1) : Calls Tryz.prog 6 #[ptr m] u fun r u' => ∃ wb, r = .returned (.tuple #[ptr wb, .int .i64 0]) ∧ Hw w0 u' m gm S l wb [] K := by
  refine (new_at h.mm.is).mono ?_
  rintro r u' ⟨wb, a, b, c⟩
  exact ⟨wb, a, G, _, h.below c, b.wide (fun y hy => hy) (fun y hy => ⟨Nat.le_trans h.mm.hB hy.1, hy.2⟩), fun y hy hg => by have := h.lt hg; have := hy.1; omega, fun b hb => ⟨(hK b hb).1.below c (hK b hb).1.lt, (hK b hb).2.1, fun hy => by have := (hK b hb).1.lt; have := hy.1; omega, (hK b hb).2.2⟩⟩
theorem Wk.changed (h : Wk w0 u m gm S l wb P K im L) : Calls Tryz.prog 13 #[ptr wb] u fun r u' => ∃ v, r = .returned v ∧ u'.ownsRow u.heap.size 3 1 v (changed S P).length (zcs (changed S P)) ∧ Wk w0 u' m gm S l wb (stays S P) K im L := by
  obtain ⟨G, H, h, hm⟩ := h
  exact (changed_at h.wt h.hg.mm.is).mono fun r u' ⟨v, a, b, t⟩ => ⟨v, a, b, Wk.wt' h hm t⟩
theorem Wk.forget (h : Wk w0 u m gm S l wb P K im L) (id : Int) (hk : (Lit.int .i64 id).wf = true) : Calls Tryz.prog 12 #[ptr wb, .int .i64 id] u fun r u' => r = .returned (.bool (gt P id).isSome) ∧ Wk w0 u' m gm S l wb (rm P id) K im L := by
  obtain ⟨G, H, h, hm⟩ := h
  exact (forget_at h.wt id hk).mono fun r u' ⟨a, t⟩ => ⟨a, Wk.wt' h hm t⟩
theorem aw10' (S : M) : changed S [] = [] := by unfold changed gath; exact srt_nil
/-- in the end: what is left is told, or not -/
theorem wk_last {v : Value} {rd : Rds} {z : Bool} (h : Wk w0 u m gm S [(g, aX R)] wb (if z then [] else [(3, (v, rd))]) (wK mb hb ib m im z) im L) (hz : goOn S rd = z) (q : Nat) :
    Calls Tryz.prog 13 #[ptr wb] (u.drewN q) fun r u' => ∃ a c, r = .returned (.slice a 0 c) ∧ u'.cell? ⟨hb, 0, none⟩ = some (.bool z) ∧ ∀ q, Calls Tryz.prog 12 #[ptr wb, .int .i64 3] (u'.drewN q) fun r u'' => r = .returned (.bool (!z)) ∧ u''.cell? ⟨hb, 0, none⟩ = some (.bool z) ∧ Below w0.heap.size w0 u'' := by
  have h' := (h.below (u' := u.drewN q) ⟨rfl, rfl, rfl, Nat.le_refl _, fun _ _ => rfl⟩).changed
  have hch : changed S (if z then [] else [(3, (v, rd))]) = [] := by
    cases z with
    | true => exact aw10' S
    | false => rw [if_neg (by simp), changed_one, hz]; rfl
  have hst : stays S (if z then [] else [(3, (v, rd))]) = if z then [] else [(3, (v, rd))] := by
    cases z with
    | true => rfl
    | false => rw [if_neg (by simp), stays_one, hz]; rfl
  rw [hch, hst] at h'
  refine h'.mono ?_
  rintro r u' ⟨v', rfl, hr, hw⟩
  obtain ⟨a, c, rfl⟩ := ownsRow_slice hr
  refine ⟨a, c, rfl, (wk_cells hw).2.1, fun q => ?_⟩
  refine ((hw.below (u' := u'.drewN q) ⟨rfl, rfl, rfl, Nat.le_refl _, fun _ _ => rfl⟩).forget 3 (WalkArith.wf_i64 (by omega))).mono ?_
  rintro r u'' ⟨rfl, h2⟩
  refine ⟨?_, (wk_cells h2).2.1, h2.bel⟩
  cases z <;> rfl
theorem gt_nilW (k : Int) : gt ([] : Wts) k = none := rfl
set_option maxHeartbeats 8000000 in
set_option maxRecDepth 100000 in
theorem wakes_at {w : World} {a1 a2 a3 : Option Addr} {n1 n2 n3 c1 c2 c3 : Nat} {zr za zb : List Int} (hr : RdI w a1 zr) (hr' : zr.length = n1) (ha : RdI w a2 za) (ha' : za.length = n2) (hb : RdI w a3 zb) (hb' : zb.length = n3) :
    Calls Tryz.prog 4 #[.slice a1 n1 c1, .slice a2 n2 c2, .slice a3 n3 c3] w fun r w' => r = .returned (.bool true) ∧ Below w.heap.size w w' := by
  have hmf : ∀ (fn : Fn) (first cap : Array Value) (w : World), (Instr.makeFunc fn first cap).run Tryz.prog w = .ok (.func fn first cap) w := fun _ _ _ _ => rfl
  have hmm := @run_makeMap Tryz.prog
  have h19 : ∀ args w, (callFunc 19 args).run Tryz.prog w = .ok (.enter 19 args) w := enters_of Tryz.func19 (by kernel_rfl) rfl
  have HZR : Hid (RdI w a1 zr ∧ zr.length = n1) := ⟨hr, hr'⟩
  have HZA : Hid (RdI w a2 za ∧ za.length = n2) := ⟨ha, ha'⟩
  have HZB : Hid (RdI w a3 zb ∧ zb.length = n3) := ⟨hb, hb'⟩
  clear hr hr' ha ha' hb hb'
  have cn := hg_new (n := 6) (w0 := w) (Below.refl _ _) (by omega) (by omega)
  unfold ptr at cn
  go_enter Tryz.func4, Tryz.ntmps4
  go_wp2_with fail
  refine Calls.mono cn ?_
  rintro e w1 ⟨m, gm, rfl, h, _⟩
  obtain ⟨w2, hw2⟩ : ∃ w2, w2 = w1.alloc (.cells #[.pointer (some ⟨m, 0, none⟩)] 26) := ⟨_, rfl⟩
  have HW2 : Hid (w2 = w1.alloc (.cells #[.pointer (some ⟨m, 0, none⟩)] 26)) := hw2
  have h2 := h.alloc (.cells #[.pointer (some ⟨m, 0, none⟩)] 26)
  have bx := Box.new w1 #[.pointer (some ⟨m, 0, none⟩)] 26
  rw [← hw2] at h2 bx
  have cw := hw_newB (K := [(w1.heap.size, #[.pointer (some ⟨m, 0, none⟩)], 26)]) h2 (fun b hb => by
    rw [List.mem_singleton] at hb
    subst hb
    exact ⟨bx, fun hg => by have := h.lt hg; omega, h.mm.hB⟩)
  have cc := bx.cell 0
  simp only [List.getElem?_toArray, List.getElem?_cons_zero] at cc
  rw [hw2] at cc
  unfold ptr at cw
  clear cn h h2 bx hw2
  go_wp2_with fail
  rw [← HW2.out]
  refine Calls.mono cw ?_
  rintro e w3 ⟨wb, rfl, h⟩
  generalize w1.heap.size = mb at *
  have cc := (h.own (b := mb) (cs := #[ptr m]) (t := 26) (List.mem_cons_self ..)).cell 0
  simp only [List.getElem?_toArray, List.getElem?_cons_zero] at cc
  have cb := h.begin 1 (by omega) (by omega)
  unfold ptr at cb cc
  clear cw h HW2
  go_wp2_with fail
  refine Calls.mono cb ?_
  rintro e w4 ⟨g, rfl, h⟩
  have H4 : Hid (Hw w w4 m gm (C.M0 6) [(g, aX [])] wb [] [(mb, #[ptr m], 26)]) := h
  have H5 := (h.map).box #[.map (some w4.heap.size)] 45
  have s5 : (w4.alloc (.map #[] 0)).heap.size = w4.heap.size + 1 := by simp
  rw [s5] at H5
  have H6 : Hid (Wk w ((w4.alloc (.map #[] 0)).alloc (.cells #[.map (some w4.heap.size)] 45)) m gm (C.M0 6) [(g, aX [])] wb [] [(w4.heap.size + 1, #[.map (some w4.heap.size)], 45), (mb, #[ptr m], 26)] w4.heap.size []) := H5
  clear cb h H4 H5 s5
  go_upto_block 0 with fail
  obtain ⟨w6, hw6⟩ : ∃ w6, w6 = (w4.alloc (.map #[] 0)).alloc (.cells #[.map (some w4.heap.size)] 45) := ⟨_, rfl⟩
  rw [← hw6] at H6 ⊢
  clear hw6
  generalize w4.heap.size + 1 = ib at *
  generalize w4.heap.size = im at *
  go_wp2_with fail
  go_loopw [14] (fun i wr => ∃ k : Nat, k ≤ 20 ∧ i = .int .i64 (k : Int) ∧ ∃ R L, Rg R L k ∧ Wk w wr m gm (C.M0 6) [(g, aX R)] wb [] [(ib, #[.map (some im)], 45), (mb, #[ptr m], 26)] im L) (fun i _ => 20 - (civ i).toNat)
  case atStart => exact ⟨0, Nat.zero_le _, rfl, [], [], Rg.nil, H6.out⟩
  case round =>
    obtain ⟨k, hk, rfl, R, L, hr, hw⟩ := hrel
    have HR : Hid (Rg R L k) := hr
    have HW : Hid (Wk w wr m gm (C.M0 6) [(g, aX R)] wb [] [(ib, #[.map (some im)], 45), (mb, #[ptr m], 26)] im L) := hw
    clear hr hw
    by_cases hlt : k < n1 ∧ k < 20
    · have h1 : (k : Int) < (n1 : Int) := by omega
      have h2 : (k : Int) < 20 := by omega
      obtain ⟨b, o, rfl, _⟩ := HZR.out.1 (by have := HZR.out.2; omega)
      have hcw := (HZR.out.1.below HW.out.bel (Nat.le_refl _)) (by have := HZR.out.2; omega)
      obtain ⟨b', o', e, hcw⟩ := hcw
      injection e with e
      injection e with e1 e2
      subst e1 e2
      have cz := hcw k (by have := HZR.out.2; omega)
      generalize (zr[k]'(by have := HZR.out.2; omega)) = z at cz
      clear hcw
      have cp := pick_at z 6 wr (by omega) (by omega)
      obtain ⟨c, hcc⟩ : ∃ c, c = z % 6 := ⟨_, rfl⟩
      have hc6 : 0 ≤ c ∧ c < 6 := by omega
      rw [← hcc] at cp
      clear hcc
      have cR := HW.out.read (j := 0) rfl c (WalkArith.wf_i64 (by omega)) (aX_read R c hc6 HR.out.zr (by have := HR.out.le; omega))
      have HN : Hid (Rg (rd1 R c) (pt L c true) (k + 1)) := HR.out.next c hc6
      have HLn : Hid (L.length < 256) := by
        have e := congrArg List.length HR.out.ks
        rw [kys_len, kys_len] at e
        have := HR.out.le
        show L.length < 256
        omega
      unfold ptr at cR
      go_wp2_with fail
      refine Calls.mono cp ?_
      rintro e wx ⟨rfl, hwx⟩
      subst wx
      clear cp
      go_wp2_with fail
      refine Calls.mono cR ?_
      rintro e w7 ⟨rfl, hw7⟩
      have hw7 : Wk w w7 m gm (C.M0 6) [(g, aX (rd1 R c))] wb [] [(ib, #[.map (some im)], 45), (mb, #[ptr m], 26)] im L := hw7
      have ci : w7.cell? ⟨ib, 0, none⟩ = some (.map (some im)) := (hw7.own (b := ib) (cs := #[.map (some im)]) (t := 45) (List.mem_cons_self ..)).cell 0
      obtain ⟨w8, hrun, hw8⟩ := hw7.upd c (by omega) HLn.out
      have H8 : Hid (Wk w w8 m gm (C.M0 6) [(g, aX (rd1 R c))] wb [] [(ib, #[.map (some im)], 45), (mb, #[ptr m], 26)] im (pt L c true)) := hw8
      clear cR hw7 hw8 HW HR HLn
      go_wp2_with fail
      go_roundw
      case rel => exact ⟨k + 1, by omega, by go_num, _, _, HN.out, H8.out⟩
      case measure => simp [civ]; omega
    · have HB : Hid (Wk w (wr.alloc (.cells #[.bool false] 4)) m gm (C.M0 6) [(g, aX R)] wb [] (wK mb wr.heap.size ib m im (hitB (C.M0 6) R)) im L) := by
        have q := HW.out.box #[.bool false] 4
        rw [hitB_new R HR.out.six]
        exact q
      have cP1 := pub_at HB.out Pb.new HR.out (by omega) HZA.out.1 HZA.out.2 (cap := c2)
      clear HW H6
      by_cases hN' : k < n1
      · have h1 : (k : Int) < (n1 : Int) := by omega
        have h2 : ¬ (k : Int) < 20 := by omega
        go_wp2_with fail
        obtain ⟨w7, hw7⟩ : ∃ w7, w7 = wr.alloc (.cells #[.bool false] 4) := ⟨_, rfl⟩
        rw [← hw7] at HB cP1 ⊢
        clear hw7
        generalize wr.heap.size = hb at *
        unfold ptr at cP1
        refine Calls.mono cP1 ?_
        rintro e w8 ⟨rfl, S1, q1, hq1, hp1, hw8⟩
        have HP1 : Hid (Pb S1 q1 ∧ q1 ≤ 10) := ⟨hp1, by omega⟩
        have H8 : Hid (Wk w w8 m gm S1 [(g, aX R)] wb [] (wK mb hb ib m im (hitB S1 R)) im L) := hw8
        have cK := hw8.park (j := 0) rfl 3 (by omega) (WalkArith.wf_i64 (by omega)) (gt_nilW 3) (by decide)
        unfold ptr at cK
        clear cP1 hp1 hq1 hw8 HB
        go_wp2_with fail
        refine Calls.mono cK ?_
        rintro e w9 ⟨rfl, v, hw9⟩
        have hw9 : Wk w w9 m gm S1 [(g, aX R)] wb [(3, (v, rdOf (aX R)))] (wK mb hb ib m im (hitB S1 R)) im L := hw9
        have H9 : Hid (Wk w w9 m gm S1 [(g, aX R)] wb [(3, (v, rdOf (aX R)))] (wK mb hb ib m im (hitB S1 R)) im L) := hw9
        have cP2 := pub_at hw9 HP1.out.1 HR.out (by have := HP1.out.2; omega) HZB.out.1 HZB.out.2 (cap := c3)
        unfold ptr at cP2
        clear cK hw9 H8
        go_wp2_with fail
        refine Calls.mono cP2 ?_
        rintro e w10 ⟨rfl, S2, q2, hq2, hp2, hw10⟩
        have HZ : Hid (goOn S2 (rdOf (aX R)) = hitB S2 R) := goOn_hit S2 R HR.out.zr
        have cC := hw10.changed
        rw [changed_one, stays_one, HZ.out] at cC
        have H10 : Hid (Wk w w10 m gm S2 [(g, aX R)] wb [(3, (v, rdOf (aX R)))] (wK mb hb ib m im (hitB S2 R)) im L) := hw10
        unfold ptr at cC
        clear cP2 hq2 hp2 hw10 H9 HP1 H10
        go_wp2_with fail
        refine Calls.mono cC ?_
        rintro e w11 ⟨v1, rfl, hr1, hw11⟩
        obtain ⟨ct, ch, _, _⟩ := wk_cells hw11
        have CC : Hid (∀ q, Calls Tryz.prog 13 #[.pointer (some ⟨wb, 0, none⟩)] (w11.drewN q) fun r u' => ∃ a c, r = .returned (.slice a 0 c) ∧ u'.cell? ⟨hb, 0, none⟩ = some (.bool (hitB S2 R)) ∧ ∀ q, Calls Tryz.prog 12 #[.pointer (some ⟨wb, 0, none⟩), .int .i64 3] (u'.drewN q) fun r u'' => r = .returned (.bool (!(hitB S2 R))) ∧ u''.cell? ⟨hb, 0, none⟩ = some (.bool (hitB S2 R)) ∧ Below w.heap.size w u'') := fun q => wk_last hw11 HZ.out q
        obtain ⟨z, hz⟩ : ∃ z, z = hitB S2 R := ⟨_, rfl⟩
        rw [← hz] at CC ch hr1
        clear hz hw11 HZ cC HR
        cases z with
        | true =>
          obtain ⟨gg, cap', e, cx⟩ := ownsRow_cell hr1 0 (by simp)
          subst e
          simp only [if_true, List.length_cons, List.length_nil] at cx ⊢
          have cx0 : w11.cell? ⟨gg, 0, none⟩ = some (.int .i64 3) := cx
          clear cx hr1
          go_upto_region 24 with fail
          clear ct
          go_region_held3 (fun u => u.cell? ⟨hb, 0, none⟩ = some (.bool true)) (first | exact kc | go_keep) (first
            | (go_at_call 13; (first | refine (CC.out 0).mono ?_ | refine (CC.out 1).mono ?_ | refine (CC.out 2).mono ?_)
               rintro e w12 ⟨a5, c5, rfl, kc, hf⟩
               have CF : Hid (∀ q, Calls Tryz.prog 12 #[.pointer (some ⟨wb, 0, none⟩), .int .i64 3] (w12.drewN q) fun r u'' => r = .returned (.bool false) ∧ u''.cell? ⟨hb, 0, none⟩ = some (.bool true) ∧ Below w.heap.size w u'') := hf
               clear hf)
            | (go_at_call 12; (first | refine (CF.out 0).mono ?_ | refine (CF.out 1).mono ?_ | refine (CF.out 2).mono ?_)
               rintro e w13 ⟨rfl, kc, hb13⟩
               have H13 : Hid (Below w.heap.size w w13) := hb13
               clear hb13)
            | (go_at_call 16; refine (awake18_at _).mono ?_
               rintro e w14 ⟨rfl, hb14⟩
               have kc := (hb14.cell (p := ⟨hb, 0, none⟩) (block_lt_of_cell kc)).trans kc
               have H14 : Hid (Below w.heap.size w w14) := H13.out.trans (hb14.mono H13.out.size)
               clear hb14))
          go_wp2_with fail
          go_ret
          exact ⟨rfl, H14.out⟩
        | false =>
          obtain ⟨aa, cc', rfl⟩ := ownsRow_slice hr1
          simp only [Bool.false_eq_true, if_false, List.length_nil] at hr1 ⊢
          clear hr1
          go_upto_region 24 with fail
          clear ct
          go_region_held3 (fun u => u.cell? ⟨hb, 0, none⟩ = some (.bool false)) (first | exact kc | go_keep) (first
            | (go_at_call 13; (first | refine (CC.out 0).mono ?_ | refine (CC.out 1).mono ?_ | refine (CC.out 2).mono ?_)
               rintro e w12 ⟨a5, c5, rfl, kc, hf⟩
               have CF : Hid (∀ q, Calls Tryz.prog 12 #[.pointer (some ⟨wb, 0, none⟩), .int .i64 3] (w12.drewN q) fun r u'' => r = .returned (.bool true) ∧ u''.cell? ⟨hb, 0, none⟩ = some (.bool false) ∧ Below w.heap.size w u'') := hf
               clear hf)
            | (go_at_call 12; (first | refine (CF.out 0).mono ?_ | refine (CF.out 1).mono ?_ | refine (CF.out 2).mono ?_)
               rintro e w13 ⟨rfl, kc, hb13⟩
               have H13 : Hid (Below w.heap.size w w13) := hb13
               clear hb13)
            | (go_at_call 16; refine (awake18_at _).mono ?_
               rintro e w14 ⟨rfl, hb14⟩
               have kc := (hb14.cell (p := ⟨hb, 0, none⟩) (block_lt_of_cell kc)).trans kc
               have H14 : Hid (Below w.heap.size w w14) := H13.out.trans (hb14.mono H13.out.size)
               clear hb14))
          go_wp2_with fail
          go_ret
          exact ⟨rfl, H14.out⟩
      · have h1 : ¬ (k : Int) < (n1 : Int) := by omega
        go_wp2_with fail
        obtain ⟨w7, hw7⟩ : ∃ w7, w7 = wr.alloc (.cells #[.bool false] 4) := ⟨_, rfl⟩
        rw [← hw7] at HB cP1 ⊢
        clear hw7
        generalize wr.heap.size = hb at *
        unfold ptr at cP1
        refine Calls.mono cP1 ?_
        rintro e w8 ⟨rfl, S1, q1, hq1, hp1, hw8⟩
        have HP1 : Hid (Pb S1 q1 ∧ q1 ≤ 10) := ⟨hp1, by omega⟩
        have H8 : Hid (Wk w w8 m gm S1 [(g, aX R)] wb [] (wK mb hb ib m im (hitB S1 R)) im L) := hw8
        have cK := hw8.park (j := 0) rfl 3 (by omega) (WalkArith.wf_i64 (by omega)) (gt_nilW 3) (by decide)
        unfold ptr at cK
        clear cP1 hp1 hq1 hw8 HB
        go_wp2_with fail
        refine Calls.mono cK ?_
        rintro e w9 ⟨rfl, v, hw9⟩
        have hw9 : Wk w w9 m gm S1 [(g, aX R)] wb [(3, (v, rdOf (aX R)))] (wK mb hb ib m im (hitB S1 R)) im L := hw9
        have H9 : Hid (Wk w w9 m gm S1 [(g, aX R)] wb [(3, (v, rdOf (aX R)))] (wK mb hb ib m im (hitB S1 R)) im L) := hw9
        have cP2 := pub_at hw9 HP1.out.1 HR.out (by have := HP1.out.2; omega) HZB.out.1 HZB.out.2 (cap := c3)
        unfold ptr at cP2
        clear cK hw9 H8
        go_wp2_with fail
        refine Calls.mono cP2 ?_
        rintro e w10 ⟨rfl, S2, q2, hq2, hp2, hw10⟩
        have HZ : Hid (goOn S2 (rdOf (aX R)) = hitB S2 R) := goOn_hit S2 R HR.out.zr
        have cC := hw10.changed
        rw [changed_one, stays_one, HZ.out] at cC
        have H10 : Hid (Wk w w10 m gm S2 [(g, aX R)] wb [(3, (v, rdOf (aX R)))] (wK mb hb ib m im (hitB S2 R)) im L) := hw10
        unfold ptr at cC
        clear cP2 hq2 hp2 hw10 H9 HP1 H10
        go_wp2_with fail
        refine Calls.mono cC ?_
        rintro e w11 ⟨v1, rfl, hr1, hw11⟩
        obtain ⟨ct, ch, _, _⟩ := wk_cells hw11
        have CC : Hid (∀ q, Calls Tryz.prog 13 #[.pointer (some ⟨wb, 0, none⟩)] (w11.drewN q) fun r u' => ∃ a c, r = .returned (.slice a 0 c) ∧ u'.cell? ⟨hb, 0, none⟩ = some (.bool (hitB S2 R)) ∧ ∀ q, Calls Tryz.prog 12 #[.pointer (some ⟨wb, 0, none⟩), .int .i64 3] (u'.drewN q) fun r u'' => r = .returned (.bool (!(hitB S2 R))) ∧ u''.cell? ⟨hb, 0, none⟩ = some (.bool (hitB S2 R)) ∧ Below w.heap.size w u'') := fun q => wk_last hw11 HZ.out q
        obtain ⟨z, hz⟩ : ∃ z, z = hitB S2 R := ⟨_, rfl⟩
        rw [← hz] at CC ch hr1
        clear hz hw11 HZ cC HR
        cases z with
        | true =>
          obtain ⟨gg, cap', e, cx⟩ := ownsRow_cell hr1 0 (by simp)
          subst e
          simp only [if_true, List.length_cons, List.length_nil] at cx ⊢
          have cx0 : w11.cell? ⟨gg, 0, none⟩ = some (.int .i64 3) := cx
          clear cx hr1
          go_upto_region 24 with fail
          clear ct
          go_region_held3 (fun u => u.cell? ⟨hb, 0, none⟩ = some (.bool true)) (first | exact kc | go_keep) (first
            | (go_at_call 13; (first | refine (CC.out 0).mono ?_ | refine (CC.out 1).mono ?_ | refine (CC.out 2).mono ?_)
               rintro e w12 ⟨a5, c5, rfl, kc, hf⟩
               have CF : Hid (∀ q, Calls Tryz.prog 12 #[.pointer (some ⟨wb, 0, none⟩), .int .i64 3] (w12.drewN q) fun r u'' => r = .returned (.bool false) ∧ u''.cell? ⟨hb, 0, none⟩ = some (.bool true) ∧ Below w.heap.size w u'') := hf
               clear hf)
            | (go_at_call 12; (first | refine (CF.out 0).mono ?_ | refine (CF.out 1).mono ?_ | refine (CF.out 2).mono ?_)
               rintro e w13 ⟨rfl, kc, hb13⟩
               have H13 : Hid (Below w.heap.size w w13) := hb13
               clear hb13)
            | (go_at_call 16; refine (awake18_at _).mono ?_
               rintro e w14 ⟨rfl, hb14⟩
               have kc := (hb14.cell (p := ⟨hb, 0, none⟩) (block_lt_of_cell kc)).trans kc
               have H14 : Hid (Below w.heap.size w w14) := H13.out.trans (hb14.mono H13.out.size)
               clear hb14))
          go_wp2_with fail
          go_ret
          exact ⟨rfl, H14.out⟩
        | false =>
          obtain ⟨aa, cc', rfl⟩ := ownsRow_slice hr1
          simp only [Bool.false_eq_true, if_false, List.length_nil] at hr1 ⊢
          clear hr1
          go_upto_region 24 with fail
          clear ct
          go_region_held3 (fun u => u.cell? ⟨hb, 0, none⟩ = some (.bool false)) (first | exact kc | go_keep) (first
            | (go_at_call 13; (first | refine (CC.out 0).mono ?_ | refine (CC.out 1).mono ?_ | refine (CC.out 2).mono ?_)
               rintro e w12 ⟨a5, c5, rfl, kc, hf⟩
               have CF : Hid (∀ q, Calls Tryz.prog 12 #[.pointer (some ⟨wb, 0, none⟩), .int .i64 3] (w12.drewN q) fun r u'' => r = .returned (.bool true) ∧ u''.cell? ⟨hb, 0, none⟩ = some (.bool false) ∧ Below w.heap.size w u'') := hf
               clear hf)
            | (go_at_call 12; (first | refine (CF.out 0).mono ?_ | refine (CF.out 1).mono ?_ | refine (CF.out 2).mono ?_)
               rintro e w13 ⟨rfl, kc, hb13⟩
               have H13 : Hid (Below w.heap.size w w13) := hb13
               clear hb13)
            | (go_at_call 16; refine (awake18_at _).mono ?_
               rintro e w14 ⟨rfl, hb14⟩
               have kc := (hb14.cell (p := ⟨hb, 0, none⟩) (block_lt_of_cell kc)).trans kc
               have H14 : Hid (Below w.heap.size w w14) := H13.out.trans (hb14.mono H13.out.size)
               clear hb14))
          go_wp2_with fail
          go_ret
          exact ⟨rfl, H14.out⟩
end
end Go.Proofs.YtafiopjgegmfoaaGreat.W
