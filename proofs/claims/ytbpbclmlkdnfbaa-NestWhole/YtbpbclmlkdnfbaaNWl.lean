/-
  NestWhole's walk.
-/
import Derived.Test.YtbpbclmlkdnfbaaNWq
namespace Go.Proofs.Ytbpbclmlkdnfbaa.T
open Go.RowKit Go.Proofs.Ytbpbclmlkdnfbaa.C
def wl4 (w2 : World) (g : Nat) : World := (w2.alloc (.cells #[.pointer (some ⟨g, 0, none⟩)] 42)).alloc (.cells #[.int .i64 0, .int .i64 0, .int .i64 0, .int .i64 0, .int .i64 0] 53)
theorem wl4_facts (w2 : World) (g : Nat) : (Box (wl4 w2 g) w2.heap.size #[ptr g] 42 ∧ Box (wl4 w2 g) (w2.heap.size + 1) (nws [0, 0, 0, 0, 0]) 53) ∧ Below w2.heap.size w2 (wl4 w2 g) := by
  have s1 : (w2.alloc (.cells #[.pointer (some ⟨g, 0, none⟩)] 42)).heap.size = w2.heap.size + 1 := by simp
  refine ⟨⟨(Box.new w2 _ 42).alloc _, ?_⟩, ((Below.refl _ _).alloc (Nat.le_refl _) _).alloc (by simp) _⟩
  have := Box.new (w2.alloc (.cells #[.pointer (some ⟨g, 0, none⟩)] 42)) #[.int .i64 0, .int .i64 0, .int .i64 0, .int .i64 0, .int .i64 0] 53
  rw [s1] at this
  exact this
def wb2 (w : World) (v1 v2 : Value) : World := (w.alloc (.cells #[v1] 51)).alloc (.cells #[v2] 52)
theorem wb2_facts (w : World) (v1 v2 : Value) : (Box (wb2 w v1 v2) w.heap.size #[v1] 51 ∧ Box (wb2 w v1 v2) (w.heap.size + 1) #[v2] 52) ∧ Below w.heap.size w (wb2 w v1 v2) := by
  have s1 : (w.alloc (.cells #[v1] 51)).heap.size = w.heap.size + 1 := by simp
  refine ⟨⟨(Box.new w _ 51).alloc _, ?_⟩, ((Below.refl _ _).alloc (Nat.le_refl _) _).alloc (by simp) _⟩
  have := Box.new (w.alloc (.cells #[v1] 51)) #[v2] 52
  rw [s1] at this
  exact this
set_option maxHeartbeats 8000000 in
set_option maxRecDepth 100000 in
theorem whole17_at (w : World) (aa ia fa : Option Addr) (A ac N ic F fc : Nat) (qs ps : List (Int × Int)) (ks : List Bool) (hA : qs.length = A) (hQ : RdP w aa qs) (hN : ps.length = N) (hR : RdP w ia ps) (hF : ks.length = F) (hB : RdBl w fa ks) :
    Calls Try.prog 7 #[.slice aa A ac, .slice ia N ic, .slice fa F fc] w fun r w' => r = .returned (.bool true) ∧ Below w.heap.size w w' := by
  have hmf : ∀ (fn : Fn) (first cap : Array Value) (w : World), (Instr.makeFunc fn first cap).run Try.prog w = .ok (.func fn first cap) w := fun _ _ _ _ => rfl
  have hst : ∀ (a : Addr) (f : Fn) (fs cs : Array Value) (w : World), (store a (.func f fs cs)).run Try.prog w = stored Try.prog w a (.func f fs cs) .plain := fun a f fs cs w => run_store Try.prog w a _ _ rfl
  have HA : Hid (RdP w aa qs ∧ qs.length = A) := ⟨hQ, hA⟩
  have HR : Hid ((RdP w ia ps ∧ ps.length = N) ∧ RdBl w fa ks ∧ ks.length = F) := ⟨⟨hR, hN⟩, hB, hF⟩
  clear hA hQ hN hR hF hB
  obtain ⟨⟨x1, x2⟩, hb0⟩ := wb2_facts w (.slice ia N ic) (.slice fa F fc)
  obtain ⟨v0, hv0⟩ : ∃ v0, v0 = wb2 w (.slice ia N ic) (.slice fa F fc) := ⟨_, rfl⟩
  rw [← hv0] at x1 x2 hb0
  have HV0 : Hid (v0 = wb2 w (.slice ia N ic) (.slice fa F fc)) := hv0
  have HX0 : Hid (Box v0 w.heap.size #[.slice ia N ic] 51 ∧ Box v0 (w.heap.size + 1) #[.slice fa F fc] 52 ∧ Below w.heap.size w v0) := ⟨x1, x2, hb0⟩
  have cn := hg_new (n := 5) (w0 := w) hb0 (by omega) (by omega)
  unfold ptr at cn
  clear hv0 x1 x2 hb0
  go_enter Try.func7, Try.ntmps7
  go_wp2_with fail
  unfold Hid wb2 at HV0
  rw [← HV0]
  clear HV0
  refine Calls.mono cn ?_
  rintro e w1 ⟨m, gm, rfl, h, hb1⟩
  have c2 := h.begin (V := fun _ => False) 1 (by omega) (by omega)
  unfold ptr at c2
  have HX1 : Hid (Box w1 w.heap.size #[.slice ia N ic] 51 ∧ Box w1 (w.heap.size + 1) #[.slice fa F fc] 52 ∧ w.heap.size + 1 < v0.heap.size) := ⟨HX0.out.1.below hb1 HX0.out.1.lt, HX0.out.2.1.below hb1 HX0.out.2.1.lt, HX0.out.2.1.lt⟩
  clear h cn hb1 HX0
  go_wp2_with fail
  refine Calls.mono c2 ?_
  rintro e w2 ⟨g, rfl, t⟩
  clear c2
  go_upto_region 8 with fail
  obtain ⟨⟨y1, y2⟩, hb4⟩ := wl4_facts w2 g
  obtain ⟨w4, hw4⟩ : ∃ w4, w4 = wl4 w2 g := ⟨_, rfl⟩
  rw [← hw4] at y1 y2 hb4
  have hg4 := t.has.below hb4
  have hs4 := hb4.size
  have z1 := Box.upd HX1.out.1 t.upd (fun h => h.elim (fun h => by have := HX1.out.2.2; omega) id)
  have z2 := Box.upd HX1.out.2.1 t.upd (fun h => h.elim (fun h => by have := HX1.out.2.2; omega) id)
  have hG0 : ∀ y, grow (fun y => v0.heap.size ≤ y ∧ y < w1.heap.size) w1 w2 y → y < w2.heap.size ∧ w.heap.size + 1 < y := fun y hy => ⟨t.has.lt hy, by
    have h1 := HX1.out.2.2
    have h2 := HX1.out.2.1.lt
    rcases hy with hy | hy <;> omega⟩
  have h02 : w.heap.size ≤ w2.heap.size := t.has.mm.hB
  obtain ⟨G, hGG⟩ : ∃ G : Nat → Prop, Hg w w4 m gm wS [(g, wX [] [])] G ∧ ∀ y, G y → y < w2.heap.size ∧ w.heap.size + 1 < y := ⟨_, hg4, hG0⟩
  have H4 : Hid (Hg w w4 m gm wS [(g, wX [] [])] G ∧ (∀ y, G y → y < w2.heap.size ∧ w.heap.size + 1 < y) ∧ (Box w4 w2.heap.size #[ptr g] 42 ∧ Box w4 (w2.heap.size + 1) (nws [0, 0, 0, 0, 0]) 53) ∧ (Box w4 w.heap.size #[.slice ia N ic] 51 ∧ Box w4 (w.heap.size + 1) #[.slice fa F fc] 52) ∧ w.heap.size ≤ w2.heap.size) := ⟨hGG.1, hGG.2, ⟨y1, y2⟩, ⟨z1.below hb4 z1.lt, z2.below hb4 z2.lt⟩, h02⟩
  unfold wl4 at hw4
  rw [← hw4]
  clear hw4 y1 y2 hb4 hg4 hs4 z1 z2 hG0 h02 hGG t HX1
  obtain ⟨nb, hnb⟩ : ∃ nb, nb = w2.heap.size + 1 := ⟨_, rfl⟩
  obtain ⟨tb, htb⟩ : ∃ tb, tb = w2.heap.size := ⟨_, rfl⟩
  obtain ⟨fb, hfb⟩ : ∃ fb, fb = w.heap.size + 1 := ⟨_, rfl⟩
  obtain ⟨ib, hib⟩ : ∃ ib, ib = w.heap.size := ⟨_, rfl⟩
  rw [← hnb, ← htb, ← hfb] at H4 ⊢
  rw [← hib] at ⊢
  have H5 : Hid (Hg w w4 m gm wS [(g, wX [] [])] G ∧ (¬ G nb ∧ ¬ G tb ∧ ¬ G ib ∧ ¬ G fb ∧ w.heap.size ≤ nb) ∧ (Box w4 tb #[ptr g] 42 ∧ Box w4 nb (nws [0, 0, 0, 0, 0]) 53) ∧ Box w4 ib #[.slice ia N ic] 51 ∧ Box w4 fb #[.slice fa F fc] 52) := by
    have q := H4.out
    exact ⟨q.1, ⟨fun hx => by have := q.2.1 _ hx; omega, fun hx => by have := q.2.1 _ hx; omega, fun hx => by have := q.2.1 _ hx; omega, fun hx => by have := q.2.1 _ hx; omega, by have := q.2.2.2.2; omega⟩, q.2.2.1, by rw [hib]; exact q.2.2.2.1.1, q.2.2.2.1.2⟩
  clear H4 hnb htb hfb hib
  have HC : Hid (∀ u' W' nw', ToG w w4 m gm wS [(g, wX W' [])] G (fun y => y = nb) u' → Box u' nb (nws nw') 53 → Box u' tb #[ptr g] 42 ∧ Box u' ib #[.slice ia N ic] 51 ∧ Box u' fb #[.slice fa F fc] 52 ∧ Below w.heap.size w u') := fun u' W' nw' t b => by
    obtain ⟨_, ⟨_, g2, g3, g4, _⟩, ⟨b1, b2⟩, b3, b4⟩ := H5.out
    exact ⟨Box.upd b1 t.upd (fun hx => hx.elim g2 (b1.ne b2 (by decide))), Box.upd b3 t.upd (fun hx => hx.elim g3 (b3.ne b2 (by decide))), Box.upd b4 t.upd (fun hx => hx.elim g4 (b4.ne b2 (by decide))), t.has.bel⟩
  go_wp2_with fail
  go_loopw [12] (fun i u' => ∃ k : Nat, k ≤ 40 ∧ i = .int .i64 (k : Int) ∧ WJ w w4 m gm g ⟨nb, tb, ib, 0, 0, fb, ia, N, ic, fa, F, fc, 0⟩ [] G u') (fun i _ => 60 - (civ i).toNat)
  case atStart => exact ⟨0, by omega, rfl, [], _, ToG.refl H5.out.1, H5.out.2.2.1.2, Wv.nil⟩
  case round =>
    obtain ⟨k, hk, rfl, W', nw', t, b, hW'⟩ := hrel
    have HJ : Hid (ToG w w4 m gm wS [(g, wX W' [])] G (fun y => y = nb) wr ∧ Box wr nb (nws nw') 53 ∧ Wv W' nw') := ⟨t, b, hW'⟩
    obtain ⟨bt, bi, bf, hbel⟩ := HC.out wr W' nw' t b
    have HE : Hid (Box wr tb #[ptr g] 42 ∧ Box wr ib #[.slice ia N ic] 51 ∧ Box wr fb #[.slice fa F fc] 52 ∧ Below w.heap.size w wr) := ⟨bt, bi, bf, hbel⟩
    have ct : wr.cell? ⟨tb, 0, none⟩ = some (.pointer (some ⟨g, 0, none⟩)) := bt.cell 0
    have cf : wr.cell? ⟨fb, 0, none⟩ = some (.slice fa F fc) := bf.cell 0
    clear t b hW' bt bi bf hbel
    by_cases hlt : k < A ∧ k < 40
    · have h1 : (k : Int) < (A : Int) := by omega
      have h2 : (k : Int) < 40 := by omega
      obtain ⟨bi, oi, pr, rfl, hbi, c0, c1⟩ := HA.out.1.at HE.out.2.2.2 k (by rw [HA.out.2]; exact hlt.1)
      obtain ⟨pz, pv⟩ := pr
      dsimp only at c0 c1
      have cp := kitPick_at pz 5 wr (by omega) (by omega)
      obtain ⟨c, hc5, hcm⟩ := mod5 pz
      rw [hcm] at cp
      go_upto_region 12 with (go_at_call 27; refine cp.mono ?_; rintro e wx ⟨rfl, hwx⟩; subst wx)
      have CW : Hid (∀ q, Calls Try.prog 28 #[.pointer (some ⟨g, 0, none⟩), .int .i64 (c : Int), .int .i64 pv] (wr.drewN q) fun r u2 => r = .returned (.int .i64 0) ∧ ToG w wr m gm wS [(g, wX (pt W' (c : Int) pv) [])] (grow G w4 wr) (fun _ => False) u2) := fun q => by
        refine ((HJ.out.1.has.drew q).write (V := fun _ => False) (j := 0) rfl (c : Int) pv (wwrite HJ.out.2.2 [] c hc5 pv)).mono ?_
        rintro r u2 ⟨a, t⟩
        exact ⟨a, t.has, t.upd⟩
      have HK : Hid (∀ u2, ToG w wr m gm wS [(g, wX (pt W' (c : Int) pv) [])] (grow G w4 wr) (fun _ => False) u2 → (u2.cell? ⟨tb, 0, none⟩ = some (.pointer (some ⟨g, 0, none⟩)) ∧ u2.cell? ⟨bi, oi + k * 2 + 1, none⟩ = some (.int .i64 pv)) ∧ (u2.cell? ⟨nb, c, none⟩ = some (.int .i64 (nw'.getD c 0)) ∧ u2.frozen? ⟨nb, c, none⟩ = false) ∧ WJ w w4 m gm g ⟨nb, tb, ib, 0, 0, fb, ia, N, ic, fa, F, fc, 0⟩ [] G (u2.setCell ⟨nb, c, none⟩ (.int .i64 pv))) := fun u2 t2 => by
        obtain ⟨g1, g2, g3, g4, g5⟩ := H5.out.2.1
        have hgr : ∀ {y : Nat}, ¬ G y → y < w4.heap.size → ¬ (grow G w4 wr y ∨ False) := fun h1 h2 h3 => h3.elim (fun h3 => h3.elim h1 (fun h3 => by omega)) id
        have b1 := Box.upd HE.out.1 t2.upd (hgr g2 H5.out.2.2.1.1.lt)
        have b4 := Box.upd HJ.out.2.1 t2.upd (hgr g1 H5.out.2.2.1.2.lt)
        have hbb : ¬ (grow G w4 wr bi ∨ False) := fun hx => hx.elim (fun hx => by have := HJ.out.1.has.gB hx; omega) id
        refine ⟨⟨b1.cell 0, ?_⟩, ⟨nws_cell b4 HJ.out.2.2.len c hc5, b4.frozen c⟩, WJ.put g5 g1 H5.out.2.2.1.2.lt HJ.out.1 HJ.out.2.1 HJ.out.2.2 hc5 t2⟩
        have hh : u2.heap[bi]? = wr.heap[bi]? := t2.upd.2 bi (by have := HE.out.2.2.2.size; omega) hbb
        have : u2.cell? ⟨bi, oi + k * 2 + 1, none⟩ = wr.cell? ⟨bi, oi + k * 2 + 1, none⟩ := by simp only [World.cell?, hh]
        rw [this]; exact c1
      clear c0 cp hcm cf
      go_region_held3 (fun u => u.cell? ⟨tb, 0, none⟩ = some (.pointer (some ⟨g, 0, none⟩)) ∧ u.cell? ⟨bi, oi + k * 2 + 1, none⟩ = some (.int .i64 pv)) (first | exact kc | go_keep) ((go_at_call 28; (first | refine (CW.out 0).mono ?_ | refine (CW.out 1).mono ?_ | refine (CW.out 2).mono ?_ | refine (CW.out 3).mono ?_); rintro e' u2 ⟨rfl, t2⟩; obtain ⟨kc, kn, kj⟩ := HK.out u2 t2; have KJ : Hid (WJ w w4 m gm g ⟨nb, tb, ib, 0, 0, fb, ia, N, ic, fa, F, fc, 0⟩ [] G (u2.setCell ⟨nb, c, none⟩ (.int .i64 pv))) := kj; clear t2 kj))
      obtain ⟨kt, kv⟩ := kc
      obtain ⟨kn1, kn2⟩ := kn
      have hc0 : (c : Int) < 5 := by omega
      clear CW HK ct c1
      go_wp2_with fail
      exact ⟨⟨k + 1, by omega, by simp, KJ.out⟩, by simp [civ]; omega⟩
    · by_cases hkN : k < A
      · have h1 : (k : Int) < (A : Int) := by omega
        have h2 : ¬ ((k : Int) < 40) := by omega
        obtain ⟨deep, hdp⟩ : ∃ deep, deep = min F 6 := ⟨_, rfl⟩
        have hmin : min (F : Int) 6 = (deep : Int) := by omega
        have hd6 : deep ≤ 6 ∧ deep ≤ F := by omega
        clear hdp
        have hG1 : ∀ {y : Nat}, ¬ G y → y < w4.heap.size → ¬ grow G w4 wr y := fun h1 h2 h3 => h3.elim h1 (fun h3 => by omega)
        have s1 : (wr.alloc (.cells #[.int .i64 (deep : Int)] 3)).heap.size = wr.heap.size + 1 := by simp
        have y2 := Box.new (wr.alloc (.cells #[.int .i64 (deep : Int)] 3)) #[.func (.func 29) #[] #[.pointer (some ⟨nb, 0, none⟩), .pointer (some ⟨tb, 0, none⟩), .pointer (some ⟨ib, 0, none⟩), .pointer (some ⟨wr.heap.size, 0, none⟩), .pointer (some ⟨wr.heap.size + 1, 0, none⟩), .pointer (some ⟨fb, 0, none⟩)]] 50
        rw [s1] at y2
        have y1 : Box ((wr.alloc (.cells #[.int .i64 (deep : Int)] 3)).alloc (.cells #[.func (.func 29) #[] #[.pointer (some ⟨nb, 0, none⟩), .pointer (some ⟨tb, 0, none⟩), .pointer (some ⟨ib, 0, none⟩), .pointer (some ⟨wr.heap.size, 0, none⟩), .pointer (some ⟨wr.heap.size + 1, 0, none⟩), .pointer (some ⟨fb, 0, none⟩)]] 50)) wr.heap.size #[.int .i64 (deep : Int)] 3 := (Box.new wr _ 3).alloc _
        have hb6 : Below wr.heap.size wr ((wr.alloc (.cells #[.int .i64 (deep : Int)] 3)).alloc (.cells #[.func (.func 29) #[] #[.pointer (some ⟨nb, 0, none⟩), .pointer (some ⟨tb, 0, none⟩), .pointer (some ⟨ib, 0, none⟩), .pointer (some ⟨wr.heap.size, 0, none⟩), .pointer (some ⟨wr.heap.size + 1, 0, none⟩), .pointer (some ⟨fb, 0, none⟩)]] 50)) := ((Below.refl _ _).alloc (Nat.le_refl _) _).alloc (by simp) _
        have hlw : ∀ y, grow G w4 wr y → y < wr.heap.size := fun y hy => HJ.out.1.has.lt hy
        have hWE : WE ⟨nb, tb, ib, wr.heap.size, wr.heap.size + 1, fb, ia, N, ic, fa, F, fc, deep⟩ g ((wr.alloc (.cells #[.int .i64 (deep : Int)] 3)).alloc (.cells #[.func (.func 29) #[] #[.pointer (some ⟨nb, 0, none⟩), .pointer (some ⟨tb, 0, none⟩), .pointer (some ⟨ib, 0, none⟩), .pointer (some ⟨wr.heap.size, 0, none⟩), .pointer (some ⟨wr.heap.size + 1, 0, none⟩), .pointer (some ⟨fb, 0, none⟩)]] 50)) (grow G w4 wr) := ⟨HE.out.1.below hb6 HE.out.1.lt, HE.out.2.1.below hb6 HE.out.2.1.lt, y1, y2, HE.out.2.2.1.below hb6 HE.out.2.2.1.lt, hG1 H5.out.2.1.1 H5.out.2.2.1.2.lt, hG1 H5.out.2.1.2.1 H5.out.2.2.1.1.lt, hG1 H5.out.2.1.2.2.1 H5.out.2.2.2.1.lt, fun hx => absurd (hlw wr.heap.size hx) (by omega), fun hx => absurd (hlw (wr.heap.size + 1) hx) (by omega), hG1 H5.out.2.1.2.2.2.1 H5.out.2.2.2.2.lt⟩
        have hn6 := HJ.out.2.1.below hb6 HJ.out.2.1.lt
        have hg6 := HJ.out.1.has.below hb6
        have HRun : Hid (0 < deep → RunOk w m gm g ⟨nb, tb, ib, wr.heap.size, wr.heap.size + 1, fb, ia, N, ic, fa, F, fc, deep⟩ 0) := fun h => run_all HR.out.1.1 HR.out.1.2 HR.out.2.1 HR.out.2.2 hd6 H5.out.2.1.2.2.2.2 (deep - 1) 0 (by show 0 + (deep - 1) + 1 = deep; omega)
        have H6 : Hid (Hg w ((wr.alloc (.cells #[.int .i64 (deep : Int)] 3)).alloc (.cells #[.func (.func 29) #[] #[.pointer (some ⟨nb, 0, none⟩), .pointer (some ⟨tb, 0, none⟩), .pointer (some ⟨ib, 0, none⟩), .pointer (some ⟨wr.heap.size, 0, none⟩), .pointer (some ⟨wr.heap.size + 1, 0, none⟩), .pointer (some ⟨fb, 0, none⟩)]] 50)) m gm wS [(g, wX W' [])] (grow G w4 wr) ∧ WE ⟨nb, tb, ib, wr.heap.size, wr.heap.size + 1, fb, ia, N, ic, fa, F, fc, deep⟩ g ((wr.alloc (.cells #[.int .i64 (deep : Int)] 3)).alloc (.cells #[.func (.func 29) #[] #[.pointer (some ⟨nb, 0, none⟩), .pointer (some ⟨tb, 0, none⟩), .pointer (some ⟨ib, 0, none⟩), .pointer (some ⟨wr.heap.size, 0, none⟩), .pointer (some ⟨wr.heap.size + 1, 0, none⟩), .pointer (some ⟨fb, 0, none⟩)]] 50)) (grow G w4 wr) ∧ Box ((wr.alloc (.cells #[.int .i64 (deep : Int)] 3)).alloc (.cells #[.func (.func 29) #[] #[.pointer (some ⟨nb, 0, none⟩), .pointer (some ⟨tb, 0, none⟩), .pointer (some ⟨ib, 0, none⟩), .pointer (some ⟨wr.heap.size, 0, none⟩), .pointer (some ⟨wr.heap.size + 1, 0, none⟩), .pointer (some ⟨fb, 0, none⟩)]] 50)) nb (nws nw') 53 ∧ Wv W' nw') := ⟨hg6, hWE, hn6, HJ.out.2.2⟩
        have cdb : ((wr.alloc (.cells #[.int .i64 (deep : Int)] 3)).alloc (.cells #[.func (.func 29) #[] #[.pointer (some ⟨nb, 0, none⟩), .pointer (some ⟨tb, 0, none⟩), .pointer (some ⟨ib, 0, none⟩), .pointer (some ⟨wr.heap.size, 0, none⟩), .pointer (some ⟨wr.heap.size + 1, 0, none⟩), .pointer (some ⟨fb, 0, none⟩)]] 50)).cell? ⟨wr.heap.size, 0, none⟩ = some (.int .i64 (deep : Int)) := y1.cell 0
        have crb : ((wr.alloc (.cells #[.int .i64 (deep : Int)] 3)).alloc (.cells #[.func (.func 29) #[] #[.pointer (some ⟨nb, 0, none⟩), .pointer (some ⟨tb, 0, none⟩), .pointer (some ⟨ib, 0, none⟩), .pointer (some ⟨wr.heap.size, 0, none⟩), .pointer (some ⟨wr.heap.size + 1, 0, none⟩), .pointer (some ⟨fb, 0, none⟩)]] 50)).cell? ⟨wr.heap.size + 1, 0, none⟩ = some (.func (.func 29) #[] #[.pointer (some ⟨nb, 0, none⟩), .pointer (some ⟨tb, 0, none⟩), .pointer (some ⟨ib, 0, none⟩), .pointer (some ⟨wr.heap.size, 0, none⟩), .pointer (some ⟨wr.heap.size + 1, 0, none⟩), .pointer (some ⟨fb, 0, none⟩)]) := y2.cell 0
        clear s1 y1 y2 hb6 hlw hWE hn6 hg6
        go_upto_region 17 with fail
        obtain ⟨u6, hu6⟩ : ∃ u6, u6 = (wr.alloc (.cells #[.int .i64 (deep : Int)] 3)).alloc (.cells #[.func (.func 29) #[] #[.pointer (some ⟨nb, 0, none⟩), .pointer (some ⟨tb, 0, none⟩), .pointer (some ⟨ib, 0, none⟩), .pointer (some ⟨wr.heap.size, 0, none⟩), .pointer (some ⟨wr.heap.size + 1, 0, none⟩), .pointer (some ⟨fb, 0, none⟩)]] 50) := ⟨_, rfl⟩
        rw [← hu6] at H6 cdb crb ⊢
        clear hu6
        by_cases hd0 : deep = 0
        · subst hd0
          obtain ⟨uz, Gz, Wz, nwz, hz, rfl⟩ : ∃ uz Gz Wz nwz, (Hg w uz m gm wS [(g, wX Wz [])] Gz ∧ (¬ Gz tb ∧ ¬ Gz nb) ∧ (Box uz tb #[ptr g] 42 ∧ Box uz nb (nws nwz) 53) ∧ Wv Wz nwz) ∧ uz = u6 := ⟨u6, _, W', nw', ⟨H6.out.1, ⟨H6.out.2.1.gn.2.1, H6.out.2.1.gn.1⟩, ⟨H6.out.2.1.bt, H6.out.2.2.1⟩, H6.out.2.2.2⟩, rfl⟩
          have HZ : Hid (Hg w uz m gm wS [(g, wX Wz [])] Gz ∧ (¬ Gz tb ∧ ¬ Gz nb) ∧ (Box uz tb #[ptr g] 42 ∧ Box uz nb (nws nwz) 53) ∧ Wv Wz nwz) := hz
          clear hz
          have ct7 : uz.cell? ⟨tb, 0, none⟩ = some (.pointer (some ⟨g, 0, none⟩)) := HZ.out.2.2.1.1.cell 0
          go_wp2_with fail
          go_loopw [75] (fun i u' => ∃ k : Nat, k ≤ 5 ∧ i = .int .i64 (k : Int) ∧ ∃ R, ToG w uz m gm wS [(g, rX R Wz)] Gz (fun _ => False) u' ∧ R.length ≤ k ∧ ∀ j, (gt R j).getD 0 = 0) (fun i _ => 5 - (civ i).toNat)
          case atStart => exact ⟨0, by omega, rfl, [], ToG.refl HZ.out.1, Nat.le_refl _, fun _ => rfl⟩
          case round =>
            obtain ⟨k2, hk2, rfl, R, t8, hRl, hR0⟩ := hrel
            have HT8 : Hid (ToG w uz m gm wS [(g, rX R Wz)] Gz (fun _ => False) wr ∧ R.length ≤ k2 ∧ ∀ j, (gt R j).getD 0 = 0) := ⟨t8, hRl, hR0⟩
            have ct8 : wr.cell? ⟨tb, 0, none⟩ = some (.pointer (some ⟨g, 0, none⟩)) := (Box.upd HZ.out.2.2.1.1 t8.upd (fun hx => hx.elim HZ.out.2.1.1 id)).cell 0
            clear t8 hRl hR0
            by_cases hl5 : k2 < 5
            · have hl5' : (k2 : Int) < 5 := by omega
              obtain ⟨R', hrd, hR1, hR2⟩ := rread HZ.out.2.2.2 HT8.out.2.2 (by have := HT8.out.2.1; omega) k2 hl5
              have crd := HT8.out.1.has.read (V := fun _ => False) (j := 0) rfl (k2 : Int) (WalkArith.wf_i64 (by omega)) hrd
              unfold ptr at crd
              go_wp2_with fail
              refine crd.mono ?_
              rintro r u9 ⟨rfl, t9⟩
              have t10 := HT8.out.1.trans t9
              have HT9 : Hid (ToG w uz m gm wS [(g, rX R' Wz)] Gz (fun _ => False) u9 ∧ R'.length ≤ k2 + 1 ∧ ∀ j, (gt R' j).getD 0 = 0) := ⟨t10, by have := HT8.out.2.1; omega, hR1⟩
              have cn9 : u9.cell? ⟨nb, k2, none⟩ = some (.int .i64 (nwz.getD k2 0)) := nws_cell (Box.upd HZ.out.2.2.1.2 t10.upd (fun hx => hx.elim HZ.out.2.1.2 id)) HZ.out.2.2.2.len k2 hl5
              clear t9 t10 crd hR1 hR2 hrd
              generalize nwz.getD k2 0 = nz at *
              go_wp2_with fail
              exact ⟨⟨k2 + 1, by omega, by simp, R', HT9.out⟩, by simp [civ]; omega⟩
            · have hk5 : k2 = 5 := by omega
              subst k2
              have cd9 := HT8.out.1.has.depth (j := 0) rfl
              have hd9 : ((rX R Wz).S.M.length : Int) = 0 := rfl
              rw [hd9] at cd9
              unfold ptr at cd9
              have cw := awake17_at wr
              go_wp2_with (first | (go_at_call 23; refine cd9.mono ?_; rintro e' u1 ⟨rfl, hu1⟩; subst u1) | (go_at_call 24; refine cw.mono ?_; rintro e' u1 ⟨rfl, k9⟩))
              go_ret
              exact ⟨rfl, HT8.out.1.has.bel.trans (k9.mono HT8.out.1.has.mm.hB)⟩
        · have hd0' : (0 : Int) < (deep : Int) := by omega
          have c29 := HRun.out (by omega) u6 (grow G w4 wr) W' [] nw' H6.out.1 H6.out.2.1 H6.out.2.2.1 H6.out.2.2.2 rfl
          unfold ptr at c29
          have h29 := enter29
          go_wp2_with fail
          refine c29.mono ?_
          rintro r u7 ⟨rfl, W2, nw2, t7, b7, hW7⟩
          have hwe7 := H6.out.2.1.to H6.out.2.2.1 t7.upd t7.up
          obtain ⟨uz, Gz, Wz, nwz, hz, rfl⟩ : ∃ uz Gz Wz nwz, (Hg w uz m gm wS [(g, wX Wz [])] Gz ∧ (¬ Gz tb ∧ ¬ Gz nb) ∧ (Box uz tb #[ptr g] 42 ∧ Box uz nb (nws nwz) 53) ∧ Wv Wz nwz) ∧ uz = u7 := ⟨u7, _, W2, nw2, ⟨t7.has, ⟨hwe7.gn.2.1, hwe7.gn.1⟩, ⟨hwe7.bt, b7⟩, hW7⟩, rfl⟩
          clear t7 b7 hW7 hwe7 c29
          have HZ : Hid (Hg w uz m gm wS [(g, wX Wz [])] Gz ∧ (¬ Gz tb ∧ ¬ Gz nb) ∧ (Box uz tb #[ptr g] 42 ∧ Box uz nb (nws nwz) 53) ∧ Wv Wz nwz) := hz
          clear hz
          have ct7 : uz.cell? ⟨tb, 0, none⟩ = some (.pointer (some ⟨g, 0, none⟩)) := HZ.out.2.2.1.1.cell 0
          go_wp2_with fail
          go_loopw [75] (fun i u' => ∃ k : Nat, k ≤ 5 ∧ i = .int .i64 (k : Int) ∧ ∃ R, ToG w uz m gm wS [(g, rX R Wz)] Gz (fun _ => False) u' ∧ R.length ≤ k ∧ ∀ j, (gt R j).getD 0 = 0) (fun i _ => 5 - (civ i).toNat)
          case atStart => exact ⟨0, by omega, rfl, [], ToG.refl HZ.out.1, Nat.le_refl _, fun _ => rfl⟩
          case round =>
            obtain ⟨k2, hk2, rfl, R, t8, hRl, hR0⟩ := hrel
            have HT8 : Hid (ToG w uz m gm wS [(g, rX R Wz)] Gz (fun _ => False) wr ∧ R.length ≤ k2 ∧ ∀ j, (gt R j).getD 0 = 0) := ⟨t8, hRl, hR0⟩
            have ct8 : wr.cell? ⟨tb, 0, none⟩ = some (.pointer (some ⟨g, 0, none⟩)) := (Box.upd HZ.out.2.2.1.1 t8.upd (fun hx => hx.elim HZ.out.2.1.1 id)).cell 0
            clear t8 hRl hR0
            by_cases hl5 : k2 < 5
            · have hl5' : (k2 : Int) < 5 := by omega
              obtain ⟨R', hrd, hR1, hR2⟩ := rread HZ.out.2.2.2 HT8.out.2.2 (by have := HT8.out.2.1; omega) k2 hl5
              have crd := HT8.out.1.has.read (V := fun _ => False) (j := 0) rfl (k2 : Int) (WalkArith.wf_i64 (by omega)) hrd
              unfold ptr at crd
              go_wp2_with fail
              refine crd.mono ?_
              rintro r u9 ⟨rfl, t9⟩
              have t10 := HT8.out.1.trans t9
              have HT9 : Hid (ToG w uz m gm wS [(g, rX R' Wz)] Gz (fun _ => False) u9 ∧ R'.length ≤ k2 + 1 ∧ ∀ j, (gt R' j).getD 0 = 0) := ⟨t10, by have := HT8.out.2.1; omega, hR1⟩
              have cn9 : u9.cell? ⟨nb, k2, none⟩ = some (.int .i64 (nwz.getD k2 0)) := nws_cell (Box.upd HZ.out.2.2.1.2 t10.upd (fun hx => hx.elim HZ.out.2.1.2 id)) HZ.out.2.2.2.len k2 hl5
              clear t9 t10 crd hR1 hR2 hrd
              generalize nwz.getD k2 0 = nz at *
              go_wp2_with fail
              exact ⟨⟨k2 + 1, by omega, by simp, R', HT9.out⟩, by simp [civ]; omega⟩
            · have hk5 : k2 = 5 := by omega
              subst k2
              have cd9 := HT8.out.1.has.depth (j := 0) rfl
              have hd9 : ((rX R Wz).S.M.length : Int) = 0 := rfl
              rw [hd9] at cd9
              unfold ptr at cd9
              have cw := awake17_at wr
              go_wp2_with (first | (go_at_call 23; refine cd9.mono ?_; rintro e' u1 ⟨rfl, hu1⟩; subst u1) | (go_at_call 24; refine cw.mono ?_; rintro e' u1 ⟨rfl, k9⟩))
              go_ret
              exact ⟨rfl, HT8.out.1.has.bel.trans (k9.mono HT8.out.1.has.mm.hB)⟩
      · have h1 : ¬ ((k : Int) < (A : Int)) := by omega
        obtain ⟨deep, hdp⟩ : ∃ deep, deep = min F 6 := ⟨_, rfl⟩
        have hmin : min (F : Int) 6 = (deep : Int) := by omega
        have hd6 : deep ≤ 6 ∧ deep ≤ F := by omega
        clear hdp
        have hG1 : ∀ {y : Nat}, ¬ G y → y < w4.heap.size → ¬ grow G w4 wr y := fun h1 h2 h3 => h3.elim h1 (fun h3 => by omega)
        have s1 : (wr.alloc (.cells #[.int .i64 (deep : Int)] 3)).heap.size = wr.heap.size + 1 := by simp
        have y2 := Box.new (wr.alloc (.cells #[.int .i64 (deep : Int)] 3)) #[.func (.func 29) #[] #[.pointer (some ⟨nb, 0, none⟩), .pointer (some ⟨tb, 0, none⟩), .pointer (some ⟨ib, 0, none⟩), .pointer (some ⟨wr.heap.size, 0, none⟩), .pointer (some ⟨wr.heap.size + 1, 0, none⟩), .pointer (some ⟨fb, 0, none⟩)]] 50
        rw [s1] at y2
        have y1 : Box ((wr.alloc (.cells #[.int .i64 (deep : Int)] 3)).alloc (.cells #[.func (.func 29) #[] #[.pointer (some ⟨nb, 0, none⟩), .pointer (some ⟨tb, 0, none⟩), .pointer (some ⟨ib, 0, none⟩), .pointer (some ⟨wr.heap.size, 0, none⟩), .pointer (some ⟨wr.heap.size + 1, 0, none⟩), .pointer (some ⟨fb, 0, none⟩)]] 50)) wr.heap.size #[.int .i64 (deep : Int)] 3 := (Box.new wr _ 3).alloc _
        have hb6 : Below wr.heap.size wr ((wr.alloc (.cells #[.int .i64 (deep : Int)] 3)).alloc (.cells #[.func (.func 29) #[] #[.pointer (some ⟨nb, 0, none⟩), .pointer (some ⟨tb, 0, none⟩), .pointer (some ⟨ib, 0, none⟩), .pointer (some ⟨wr.heap.size, 0, none⟩), .pointer (some ⟨wr.heap.size + 1, 0, none⟩), .pointer (some ⟨fb, 0, none⟩)]] 50)) := ((Below.refl _ _).alloc (Nat.le_refl _) _).alloc (by simp) _
        have hlw : ∀ y, grow G w4 wr y → y < wr.heap.size := fun y hy => HJ.out.1.has.lt hy
        have hWE : WE ⟨nb, tb, ib, wr.heap.size, wr.heap.size + 1, fb, ia, N, ic, fa, F, fc, deep⟩ g ((wr.alloc (.cells #[.int .i64 (deep : Int)] 3)).alloc (.cells #[.func (.func 29) #[] #[.pointer (some ⟨nb, 0, none⟩), .pointer (some ⟨tb, 0, none⟩), .pointer (some ⟨ib, 0, none⟩), .pointer (some ⟨wr.heap.size, 0, none⟩), .pointer (some ⟨wr.heap.size + 1, 0, none⟩), .pointer (some ⟨fb, 0, none⟩)]] 50)) (grow G w4 wr) := ⟨HE.out.1.below hb6 HE.out.1.lt, HE.out.2.1.below hb6 HE.out.2.1.lt, y1, y2, HE.out.2.2.1.below hb6 HE.out.2.2.1.lt, hG1 H5.out.2.1.1 H5.out.2.2.1.2.lt, hG1 H5.out.2.1.2.1 H5.out.2.2.1.1.lt, hG1 H5.out.2.1.2.2.1 H5.out.2.2.2.1.lt, fun hx => absurd (hlw wr.heap.size hx) (by omega), fun hx => absurd (hlw (wr.heap.size + 1) hx) (by omega), hG1 H5.out.2.1.2.2.2.1 H5.out.2.2.2.2.lt⟩
        have hn6 := HJ.out.2.1.below hb6 HJ.out.2.1.lt
        have hg6 := HJ.out.1.has.below hb6
        have HRun : Hid (0 < deep → RunOk w m gm g ⟨nb, tb, ib, wr.heap.size, wr.heap.size + 1, fb, ia, N, ic, fa, F, fc, deep⟩ 0) := fun h => run_all HR.out.1.1 HR.out.1.2 HR.out.2.1 HR.out.2.2 hd6 H5.out.2.1.2.2.2.2 (deep - 1) 0 (by show 0 + (deep - 1) + 1 = deep; omega)
        have H6 : Hid (Hg w ((wr.alloc (.cells #[.int .i64 (deep : Int)] 3)).alloc (.cells #[.func (.func 29) #[] #[.pointer (some ⟨nb, 0, none⟩), .pointer (some ⟨tb, 0, none⟩), .pointer (some ⟨ib, 0, none⟩), .pointer (some ⟨wr.heap.size, 0, none⟩), .pointer (some ⟨wr.heap.size + 1, 0, none⟩), .pointer (some ⟨fb, 0, none⟩)]] 50)) m gm wS [(g, wX W' [])] (grow G w4 wr) ∧ WE ⟨nb, tb, ib, wr.heap.size, wr.heap.size + 1, fb, ia, N, ic, fa, F, fc, deep⟩ g ((wr.alloc (.cells #[.int .i64 (deep : Int)] 3)).alloc (.cells #[.func (.func 29) #[] #[.pointer (some ⟨nb, 0, none⟩), .pointer (some ⟨tb, 0, none⟩), .pointer (some ⟨ib, 0, none⟩), .pointer (some ⟨wr.heap.size, 0, none⟩), .pointer (some ⟨wr.heap.size + 1, 0, none⟩), .pointer (some ⟨fb, 0, none⟩)]] 50)) (grow G w4 wr) ∧ Box ((wr.alloc (.cells #[.int .i64 (deep : Int)] 3)).alloc (.cells #[.func (.func 29) #[] #[.pointer (some ⟨nb, 0, none⟩), .pointer (some ⟨tb, 0, none⟩), .pointer (some ⟨ib, 0, none⟩), .pointer (some ⟨wr.heap.size, 0, none⟩), .pointer (some ⟨wr.heap.size + 1, 0, none⟩), .pointer (some ⟨fb, 0, none⟩)]] 50)) nb (nws nw') 53 ∧ Wv W' nw') := ⟨hg6, hWE, hn6, HJ.out.2.2⟩
        have cdb : ((wr.alloc (.cells #[.int .i64 (deep : Int)] 3)).alloc (.cells #[.func (.func 29) #[] #[.pointer (some ⟨nb, 0, none⟩), .pointer (some ⟨tb, 0, none⟩), .pointer (some ⟨ib, 0, none⟩), .pointer (some ⟨wr.heap.size, 0, none⟩), .pointer (some ⟨wr.heap.size + 1, 0, none⟩), .pointer (some ⟨fb, 0, none⟩)]] 50)).cell? ⟨wr.heap.size, 0, none⟩ = some (.int .i64 (deep : Int)) := y1.cell 0
        have crb : ((wr.alloc (.cells #[.int .i64 (deep : Int)] 3)).alloc (.cells #[.func (.func 29) #[] #[.pointer (some ⟨nb, 0, none⟩), .pointer (some ⟨tb, 0, none⟩), .pointer (some ⟨ib, 0, none⟩), .pointer (some ⟨wr.heap.size, 0, none⟩), .pointer (some ⟨wr.heap.size + 1, 0, none⟩), .pointer (some ⟨fb, 0, none⟩)]] 50)).cell? ⟨wr.heap.size + 1, 0, none⟩ = some (.func (.func 29) #[] #[.pointer (some ⟨nb, 0, none⟩), .pointer (some ⟨tb, 0, none⟩), .pointer (some ⟨ib, 0, none⟩), .pointer (some ⟨wr.heap.size, 0, none⟩), .pointer (some ⟨wr.heap.size + 1, 0, none⟩), .pointer (some ⟨fb, 0, none⟩)]) := y2.cell 0
        clear s1 y1 y2 hb6 hlw hWE hn6 hg6
        go_upto_region 17 with fail
        obtain ⟨u6, hu6⟩ : ∃ u6, u6 = (wr.alloc (.cells #[.int .i64 (deep : Int)] 3)).alloc (.cells #[.func (.func 29) #[] #[.pointer (some ⟨nb, 0, none⟩), .pointer (some ⟨tb, 0, none⟩), .pointer (some ⟨ib, 0, none⟩), .pointer (some ⟨wr.heap.size, 0, none⟩), .pointer (some ⟨wr.heap.size + 1, 0, none⟩), .pointer (some ⟨fb, 0, none⟩)]] 50) := ⟨_, rfl⟩
        rw [← hu6] at H6 cdb crb ⊢
        clear hu6
        by_cases hd0 : deep = 0
        · subst hd0
          obtain ⟨uz, Gz, Wz, nwz, hz, rfl⟩ : ∃ uz Gz Wz nwz, (Hg w uz m gm wS [(g, wX Wz [])] Gz ∧ (¬ Gz tb ∧ ¬ Gz nb) ∧ (Box uz tb #[ptr g] 42 ∧ Box uz nb (nws nwz) 53) ∧ Wv Wz nwz) ∧ uz = u6 := ⟨u6, _, W', nw', ⟨H6.out.1, ⟨H6.out.2.1.gn.2.1, H6.out.2.1.gn.1⟩, ⟨H6.out.2.1.bt, H6.out.2.2.1⟩, H6.out.2.2.2⟩, rfl⟩
          have HZ : Hid (Hg w uz m gm wS [(g, wX Wz [])] Gz ∧ (¬ Gz tb ∧ ¬ Gz nb) ∧ (Box uz tb #[ptr g] 42 ∧ Box uz nb (nws nwz) 53) ∧ Wv Wz nwz) := hz
          clear hz
          have ct7 : uz.cell? ⟨tb, 0, none⟩ = some (.pointer (some ⟨g, 0, none⟩)) := HZ.out.2.2.1.1.cell 0
          go_wp2_with fail
          go_loopw [75] (fun i u' => ∃ k : Nat, k ≤ 5 ∧ i = .int .i64 (k : Int) ∧ ∃ R, ToG w uz m gm wS [(g, rX R Wz)] Gz (fun _ => False) u' ∧ R.length ≤ k ∧ ∀ j, (gt R j).getD 0 = 0) (fun i _ => 5 - (civ i).toNat)
          case atStart => exact ⟨0, by omega, rfl, [], ToG.refl HZ.out.1, Nat.le_refl _, fun _ => rfl⟩
          case round =>
            obtain ⟨k2, hk2, rfl, R, t8, hRl, hR0⟩ := hrel
            have HT8 : Hid (ToG w uz m gm wS [(g, rX R Wz)] Gz (fun _ => False) wr ∧ R.length ≤ k2 ∧ ∀ j, (gt R j).getD 0 = 0) := ⟨t8, hRl, hR0⟩
            have ct8 : wr.cell? ⟨tb, 0, none⟩ = some (.pointer (some ⟨g, 0, none⟩)) := (Box.upd HZ.out.2.2.1.1 t8.upd (fun hx => hx.elim HZ.out.2.1.1 id)).cell 0
            clear t8 hRl hR0
            by_cases hl5 : k2 < 5
            · have hl5' : (k2 : Int) < 5 := by omega
              obtain ⟨R', hrd, hR1, hR2⟩ := rread HZ.out.2.2.2 HT8.out.2.2 (by have := HT8.out.2.1; omega) k2 hl5
              have crd := HT8.out.1.has.read (V := fun _ => False) (j := 0) rfl (k2 : Int) (WalkArith.wf_i64 (by omega)) hrd
              unfold ptr at crd
              go_wp2_with fail
              refine crd.mono ?_
              rintro r u9 ⟨rfl, t9⟩
              have t10 := HT8.out.1.trans t9
              have HT9 : Hid (ToG w uz m gm wS [(g, rX R' Wz)] Gz (fun _ => False) u9 ∧ R'.length ≤ k2 + 1 ∧ ∀ j, (gt R' j).getD 0 = 0) := ⟨t10, by have := HT8.out.2.1; omega, hR1⟩
              have cn9 : u9.cell? ⟨nb, k2, none⟩ = some (.int .i64 (nwz.getD k2 0)) := nws_cell (Box.upd HZ.out.2.2.1.2 t10.upd (fun hx => hx.elim HZ.out.2.1.2 id)) HZ.out.2.2.2.len k2 hl5
              clear t9 t10 crd hR1 hR2 hrd
              generalize nwz.getD k2 0 = nz at *
              go_wp2_with fail
              exact ⟨⟨k2 + 1, by omega, by simp, R', HT9.out⟩, by simp [civ]; omega⟩
            · have hk5 : k2 = 5 := by omega
              subst k2
              have cd9 := HT8.out.1.has.depth (j := 0) rfl
              have hd9 : ((rX R Wz).S.M.length : Int) = 0 := rfl
              rw [hd9] at cd9
              unfold ptr at cd9
              have cw := awake17_at wr
              go_wp2_with (first | (go_at_call 23; refine cd9.mono ?_; rintro e' u1 ⟨rfl, hu1⟩; subst u1) | (go_at_call 24; refine cw.mono ?_; rintro e' u1 ⟨rfl, k9⟩))
              go_ret
              exact ⟨rfl, HT8.out.1.has.bel.trans (k9.mono HT8.out.1.has.mm.hB)⟩
        · have hd0' : (0 : Int) < (deep : Int) := by omega
          have c29 := HRun.out (by omega) u6 (grow G w4 wr) W' [] nw' H6.out.1 H6.out.2.1 H6.out.2.2.1 H6.out.2.2.2 rfl
          unfold ptr at c29
          have h29 := enter29
          go_wp2_with fail
          refine c29.mono ?_
          rintro r u7 ⟨rfl, W2, nw2, t7, b7, hW7⟩
          have hwe7 := H6.out.2.1.to H6.out.2.2.1 t7.upd t7.up
          obtain ⟨uz, Gz, Wz, nwz, hz, rfl⟩ : ∃ uz Gz Wz nwz, (Hg w uz m gm wS [(g, wX Wz [])] Gz ∧ (¬ Gz tb ∧ ¬ Gz nb) ∧ (Box uz tb #[ptr g] 42 ∧ Box uz nb (nws nwz) 53) ∧ Wv Wz nwz) ∧ uz = u7 := ⟨u7, _, W2, nw2, ⟨t7.has, ⟨hwe7.gn.2.1, hwe7.gn.1⟩, ⟨hwe7.bt, b7⟩, hW7⟩, rfl⟩
          clear t7 b7 hW7 hwe7 c29
          have HZ : Hid (Hg w uz m gm wS [(g, wX Wz [])] Gz ∧ (¬ Gz tb ∧ ¬ Gz nb) ∧ (Box uz tb #[ptr g] 42 ∧ Box uz nb (nws nwz) 53) ∧ Wv Wz nwz) := hz
          clear hz
          have ct7 : uz.cell? ⟨tb, 0, none⟩ = some (.pointer (some ⟨g, 0, none⟩)) := HZ.out.2.2.1.1.cell 0
          go_wp2_with fail
          go_loopw [75] (fun i u' => ∃ k : Nat, k ≤ 5 ∧ i = .int .i64 (k : Int) ∧ ∃ R, ToG w uz m gm wS [(g, rX R Wz)] Gz (fun _ => False) u' ∧ R.length ≤ k ∧ ∀ j, (gt R j).getD 0 = 0) (fun i _ => 5 - (civ i).toNat)
          case atStart => exact ⟨0, by omega, rfl, [], ToG.refl HZ.out.1, Nat.le_refl _, fun _ => rfl⟩
          case round =>
            obtain ⟨k2, hk2, rfl, R, t8, hRl, hR0⟩ := hrel
            have HT8 : Hid (ToG w uz m gm wS [(g, rX R Wz)] Gz (fun _ => False) wr ∧ R.length ≤ k2 ∧ ∀ j, (gt R j).getD 0 = 0) := ⟨t8, hRl, hR0⟩
            have ct8 : wr.cell? ⟨tb, 0, none⟩ = some (.pointer (some ⟨g, 0, none⟩)) := (Box.upd HZ.out.2.2.1.1 t8.upd (fun hx => hx.elim HZ.out.2.1.1 id)).cell 0
            clear t8 hRl hR0
            by_cases hl5 : k2 < 5
            · have hl5' : (k2 : Int) < 5 := by omega
              obtain ⟨R', hrd, hR1, hR2⟩ := rread HZ.out.2.2.2 HT8.out.2.2 (by have := HT8.out.2.1; omega) k2 hl5
              have crd := HT8.out.1.has.read (V := fun _ => False) (j := 0) rfl (k2 : Int) (WalkArith.wf_i64 (by omega)) hrd
              unfold ptr at crd
              go_wp2_with fail
              refine crd.mono ?_
              rintro r u9 ⟨rfl, t9⟩
              have t10 := HT8.out.1.trans t9
              have HT9 : Hid (ToG w uz m gm wS [(g, rX R' Wz)] Gz (fun _ => False) u9 ∧ R'.length ≤ k2 + 1 ∧ ∀ j, (gt R' j).getD 0 = 0) := ⟨t10, by have := HT8.out.2.1; omega, hR1⟩
              have cn9 : u9.cell? ⟨nb, k2, none⟩ = some (.int .i64 (nwz.getD k2 0)) := nws_cell (Box.upd HZ.out.2.2.1.2 t10.upd (fun hx => hx.elim HZ.out.2.1.2 id)) HZ.out.2.2.2.len k2 hl5
              clear t9 t10 crd hR1 hR2 hrd
              generalize nwz.getD k2 0 = nz at *
              go_wp2_with fail
              exact ⟨⟨k2 + 1, by omega, by simp, R', HT9.out⟩, by simp [civ]; omega⟩
            · have hk5 : k2 = 5 := by omega
              subst k2
              have cd9 := HT8.out.1.has.depth (j := 0) rfl
              have hd9 : ((rX R Wz).S.M.length : Int) = 0 := rfl
              rw [hd9] at cd9
              unfold ptr at cd9
              have cw := awake17_at wr
              go_wp2_with (first | (go_at_call 23; refine cd9.mono ?_; rintro e' u1 ⟨rfl, hu1⟩; subst u1) | (go_at_call 24; refine cw.mono ?_; rintro e' u1 ⟨rfl, k9⟩))
              go_ret
              exact ⟨rfl, HT8.out.1.has.bel.trans (k9.mono HT8.out.1.has.mm.hB)⟩
end Go.Proofs.Ytbpbclmlkdnfbaa.T
