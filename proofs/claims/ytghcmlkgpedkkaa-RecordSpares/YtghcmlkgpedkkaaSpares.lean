/-
  RecordSpares' walk.
-/
import Derived.Test.YtghcmlkgpedkkaaRows4
import Derived.Test.YtghcmlkgpedkkaaAwake
import Derived.Deep.Cut
namespace Go.Proofs.Ytghcmlkgpedkkaa
open Go.RowKit

theorem get_putJ (E S : Nat) (is : List (Int × List UInt8)) (a : Option Addr) (m n cap : Nat) (w : World) (hok : okGroup E S is) (hm : is.length = m) (hn : n = m + 1) (hL : Lsts w a (putL E S is)) :
    Calls Try.prog 11 #[.slice a n cap] w fun r w' => ∃ a9 c9 qs, r = .returned (.tuple #[.agg #[.int .i64 (E : Int), .int .i64 (S : Int), .slice a9 m c9], .int .i64 0]) ∧ w'.ownsRow w.heap.size 38 2 (.slice a9 m c9) m (imgC qs) ∧ GetJ w.heap.size w' qs ∧ qs.map (fun p => (p.b, p.xs)) = is ∧ Below w.heap.size w w' := by
  subst hm hn
  have hlen := is_length hok
  refine (get_in a (is.length + 1) cap (putL E S is) w (putL_length _ _ _) (by omega) (by omega) hL).mono ?_
  intro r w' hG
  obtain ⟨q1, q2, q3⟩ := put_said hok
  have e0 : (putL E S is)[0]?.getD [] = headB E S (entL (mark E S) is) := rfl
  rcases hG with ⟨_, a9, c, ps, h1, h2, h3, h4, h5⟩ | ⟨h1, _⟩
  · rw [e0, q1, q2, q3, entL_length] at h1
    rw [e0, q3, entL_length] at h2 h4
    rw [put_imgs hok] at h4
    exact ⟨a9, c, ps, h1, h2, h3, h4, h5⟩
  · exact absurd (put_grp hok) h1

/-- what Put of a right group leaves: its lists, its rows, and where they are told -/
def PutS (w : World) (E S n : Nat) (is : List (Int × List UInt8)) (r : Ending) (w' : World) : Prop :=
  ∃ gl cl rs, r = .returned (.tuple #[.slice (some ⟨gl, 0, none⟩) (n + 1) cl, .int .i64 0]) ∧ Lsts w' (some ⟨gl, 0, none⟩) (putL E S is) ∧ rs.length = n + 1 ∧ Rw w.heap.size w'.heap.size w' rs ∧ gl < w'.heap.size ∧ (∀ j, j < n + 1 → w'.cell? ⟨gl, j, none⟩ = (rcC rs)[j]?) ∧ Below w.heap.size w w'
theorem put_S (E S : Nat) (a : Option Addr) (n cap : Nat) (is : List (Int × List UInt8)) (w : World) (hl : is.length = n) (hI : Imgs w a is) (hok : okGroup E S is) : Calls Try.prog 7 #[.agg #[.int .i64 (E : Int), .int .i64 (S : Int), .slice a n cap]] w (PutS w E S n is) := by
  have hlen := is_length hok
  refine (put_in E S a n cap is w hl hI hok (by omega) (by omega)).mono ?_
  rintro r w' ⟨gl, cl, h0, ps, rfl, hgl, ho, hr, hh0, hb0, hj, hm, b⟩
  have hps : ps.length = n := by rw [← hl, ← hm]; simp
  have h4 : ∀ p ∈ ps, p.xs.length = 4096 := fun p hp => by
    have := hok.2 (p.b, p.xs) (by rw [← hm]; exact List.mem_map.2 ⟨p, hp, rfl⟩)
    exact this
  have hd4 : (headB E S (esOf (mark E S) ps)).length = 4096 := by
    rw [esOf_entL, hm]
    exact headB_length (bodyB_length _ (entL_len hok) (by rw [entL_length]; exact (is_length hok).2))
  obtain ⟨g, he, _, ⟨cur, hbx⟩, hc⟩ := owns_cells ho (by omega)
  obtain rfl : gl = g := by simpa using he
  refine ⟨gl, cl, (h0, 4096) :: ps.map fun p => (p.h, p.c), rfl, put_lsts hl hok ho hr hj hm, by simp [hps], rw_put (mark_length _ _) hj hr hd4 hh0 hb0 h4, hbx.lt, fun j hjn => ?_, b⟩
  rw [hc j (by omega)]
  simp [rcC, rowC]
  rfl

theorem rw_all {b0 b1 b2 b3 b4 b5 b6 b7 T : Nat} {W : World} {L M C X Y : List (Nat × Nat)} {n : Nat} (wC : Rw b1 b2 W C) (wL : Rw b2 b3 W L) (wM : Rw b3 b4 W M) (wX : Rw b4 b5 W X) (wY : Rw b6 b7 W Y) (lc : C.length = n) (lx : X.length = n) (ly : Y.length = n)
    (h01 : b0 ≤ b1) (h12 : b1 ≤ b2) (h23 : b2 ≤ b3) (h34 : b3 ≤ b4) (h45 : b4 ≤ b5) (h56 : b5 ≤ b6) (h67 : b6 ≤ b7) (h7 : b7 ≤ T) : Rw b0 T W (L ++ M ++ trio C X Y n) := by
  have h1 := wL.join wM h23 h34
  obtain ⟨t1, t2⟩ := rw_trio wC wX wY (by omega) h56 lc lx ly h45 n (Nat.le_refl _)
  refine ⟨fun p hp => ?_, ?_⟩
  · rcases List.mem_append.1 hp with q | q
    · obtain ⟨k1, k2, k3⟩ := h1.rows p q
      exact ⟨k1, by omega, by omega⟩
    · obtain ⟨k1, k2⟩ := t1 p q
      exact ⟨k1, by omega, by omega⟩
  · rw [List.map_append, List.nodup_append]
    refine ⟨h1.apart, t2, fun x hx y hy e => ?_⟩
    obtain ⟨p, hp, rfl⟩ := List.mem_map.1 hx
    obtain ⟨q, hq, rfl⟩ := List.mem_map.1 hy
    have k1 := (h1.rows p hp).2
    have k2 := (t1 q hq).2
    omega
/-- what stands ahead of the gathering -/
structure SpS (w W : World) (n ga gx gy gl gm g7 g9 cc c9 c8 E S T : Nat) (C X Y L M : List (Nat × Nat)) (is : List (Int × List UInt8)) : Prop where
  x1 : Box W w.heap.size #[.int .i64 (E : Int), .int .i64 (S : Int), .slice (some ⟨ga, 0, none⟩) n cc] 28
  x7 : Box W g7 #[.int .i64 (E : Int), .int .i64 (S : Int), .slice (some ⟨gx, 0, none⟩) n c9] 28
  x9 : Box W g9 #[.int .i64 (E : Int), .int .i64 (S : Int), .slice (some ⟨gy, 0, none⟩) n c8] 28
  ia : Imgs W (some ⟨ga, 0, none⟩) is
  ix : Imgs W (some ⟨gx, 0, none⟩) is
  iy : Imgs W (some ⟨gy, 0, none⟩) is
  ca : ∀ i, i < n → W.cell? ⟨ga, i * 2 + 1, none⟩ = some (.slice (some ⟨(C.getD i (0, 0)).1, 0, none⟩) 4096 (C.getD i (0, 0)).2)
  cx : ∀ i, i < n → W.cell? ⟨gx, i * 2 + 1, none⟩ = some (.slice (some ⟨(X.getD i (0, 0)).1, 0, none⟩) 4096 (X.getD i (0, 0)).2)
  cy : ∀ i, i < n → W.cell? ⟨gy, i * 2 + 1, none⟩ = some (.slice (some ⟨(Y.getD i (0, 0)).1, 0, none⟩) 4096 (Y.getD i (0, 0)).2)
  la : ga < W.heap.size
  lx : gx < W.heap.size
  ly : gy < W.heap.size
  ll : gl < W.heap.size
  lm : gm < W.heap.size
  cl : ∀ j, j < n + 1 → W.cell? ⟨gl, j, none⟩ = (rcC L)[j]?
  cm : ∀ j, j < n + 1 → W.cell? ⟨gm, j, none⟩ = (rcC M)[j]?
  rows : Rw w.heap.size T W (L ++ M ++ trio C X Y n)
  B : Below w.heap.size w W
theorem SpS.below {w W W' : World} {n ga gx gy gl gm g7 g9 cc c9 c8 E S T : Nat} {C X Y L M : List (Nat × Nat)} {is : List (Int × List UInt8)} (h : SpS w W n ga gx gy gl gm g7 g9 cc c9 c8 E S T C X Y L M is) (b : Below W.heap.size W W') : SpS w W' n ga gx gy gl gm g7 g9 cc c9 c8 E S T C X Y L M is where
  x1 := h.x1.below b
  x7 := h.x7.below b
  x9 := h.x9.below b
  ia := h.ia.below b
  ix := h.ix.below b
  iy := h.iy.below b
  ca := fun i hi => (b.cell (p := ⟨ga, i * 2 + 1, none⟩) h.la).trans (h.ca i hi)
  cx := fun i hi => (b.cell (p := ⟨gx, i * 2 + 1, none⟩) h.lx).trans (h.cx i hi)
  cy := fun i hi => (b.cell (p := ⟨gy, i * 2 + 1, none⟩) h.ly).trans (h.cy i hi)
  la := Nat.lt_of_lt_of_le h.la b.size
  lx := Nat.lt_of_lt_of_le h.lx b.size
  ly := Nat.lt_of_lt_of_le h.ly b.size
  ll := Nat.lt_of_lt_of_le h.ll b.size
  lm := Nat.lt_of_lt_of_le h.lm b.size
  cl := fun j hj => (b.cell (p := ⟨gl, j, none⟩) h.ll).trans (h.cl j hj)
  cm := fun j hj => (b.cell (p := ⟨gm, j, none⟩) h.lm).trans (h.cm j hj)
  rows := h.rows.below b
  B := h.B.trans (b.mono h.B.size)
theorem img_cells {w : World} {B m : Nat} {g n c : Nat} {qs : List GG} (ho : w.ownsRow B 38 2 (.slice (some ⟨g, 0, none⟩) n c) m (imgC qs)) (hm : qs.length = m) (h0 : 0 < m) : g < w.heap.size ∧ ∀ i, i < m → w.cell? ⟨g, i * 2 + 1, none⟩ = some (.slice (some ⟨((qs.map fun p => (p.h, p.c)).getD i (0, 0)).1, 0, none⟩) 4096 ((qs.map fun p => (p.h, p.c)).getD i (0, 0)).2) := by
  obtain ⟨g', he, _, ⟨cur, hb⟩, hc⟩ := owns_cells ho h0
  obtain rfl : g = g' := by simpa using he
  refine ⟨hb.lt, fun i hi => ?_⟩
  have hi' : i < qs.length := by omega
  rw [hc _ (by omega), (imgC_at qs i hi').2]
  simp [hi']

set_option maxRecDepth 100000 in
set_option maxHeartbeats 4000000 in
theorem spares_at (e s : Int) (a : Option Addr) (n c : Nat) (is : List (Int × List UInt8)) (w : World) (hl : is.length = n) (hn : n * 32 ≤ 140737488355328) (hI : Imgs w a is) (h47 : ∀ i ∈ is, i.2.length ≤ 140737488355328) :
    Calls Try.prog 6 #[.agg #[.int .i64 e, .int .i64 s, .slice a n c]] w fun r w' => r = .returned (.bool true) ∧ Below w.heap.size w w' := by
  obtain ⟨j0, ji, jz0, jz1, jz2⟩ := info_parts info31
  have x1 := Box.new w #[.int .i64 e, .int .i64 s, .slice a n c] 28
  have B1 := (Below.refl w.heap.size w).alloc (Nat.le_refl _) (.cells #[.int .i64 e, .int .i64 s, .slice a n c] 28)
  have cC := copyImages_at a n c is _ hl hn (hI.below B1) h47
  have HA : Hid (∀ u : World, Calls Try.prog 18 #[] u fun r w' => r = .returned (.bool true) ∧ Below u.heap.size u w') := awake_at
  have HL : Hid (is.length = n) := hl
  have HI : Hid (Imgs w a is) := hI
  clear hl hI h47
  go_enter Try.func6, Try.ntmps6
  go_wp2_with fail
  refine cC.mono ?_
  rintro r w1 ⟨ac, cc, ps, rfl, own, hJ, hps, b1⟩
  clear cC
  have k1 := own
  have x2 := (x1.below b1).store 2 (.slice ac n cc)
  replace x2 : Box (w1.setCell ⟨w.heap.size, 2, none⟩ (.slice ac n cc)) w.heap.size #[.int .i64 e, .int .i64 s, .slice ac n cc] 28 := by simpa using x2
  have B2 := (B1.trans (b1.mono B1.size)).setCell (p := ⟨w.heap.size, 2, none⟩) (Nat.le_refl _) (.slice ac n cc)
  have g1 := grown_store w1 w.heap.size 2 (.slice ac n cc)
  have xb := x1.below b1
  have z0 := xb.cell 0
  have z1 := xb.cell 1
  have z2 := xb.cell 2
  have f2 := xb.frozen 2
  have own2 := owns_grown own g1 (fun g h1 h2 => by
    injection h2 with h2
    obtain ⟨_, cur, hb⟩ := owns_block own g h1
    exact Box.ne xb (h2 ▸ hb) (by decide) rfl)
  have hJ2 : CpJ _ (w1.setCell ⟨w.heap.size, 2, none⟩ (.slice ac n cc)) ps := ⟨fun p hp => owns_grown (hJ.rows p hp) g1 (fun g h1 h2 => by
    injection h2 with h2
    obtain ⟨_, cur, hb⟩ := owns_block (hJ.rows p hp) g h1
    exact Box.ne xb (h2 ▸ hb) (by decide) rfl), hJ.apart⟩
  have hIc := imgs_cp own2 hJ2 (by rw [← HL.out, ← hps]; simp)
  rw [hps] at hIc
  obtain ⟨w2, hw2⟩ : ∃ u, u = w1.setCell ⟨w.heap.size, 2, none⟩ (.slice ac n cc) := ⟨_, rfl⟩
  rw [← hw2] at x2 B2 own2 hJ2 hIc
  have HW2 : Hid (w2 = w1.setCell ⟨w.heap.size, 2, none⟩ (.slice ac n cc)) := hw2
  have base : Hid (w.heap.size < (w.alloc (.cells #[.int .i64 e, .int .i64 s, .slice a n c] 28)).heap.size) := by simp [Hid]
  have hBw2 : (w.alloc (.cells #[.int .i64 e, .int .i64 s, .slice a n c] 28)).heap.size ≤ w2.heap.size := by
    have := b1.size
    rw [hw2]
    simpa using this
  clear own hJ k1 hw2 g1 x1 B1 b1 xb
  go_upto_region 2 with fail
  rw [← HW2.out]
  clear HW2 z0 z1 z2 f2
  have z0 := x2.cell 0
  have z1 := x2.cell 1
  have z2 := x2.cell 2
  by_cases hok : okGroup e s is
  · have hst := (okStamp_iff _ _).1 hok.1.1
    obtain ⟨E, rfl⟩ : ∃ E : Nat, e = (E : Int) := ⟨e.toNat, by omega⟩
    obtain ⟨S, rfl⟩ : ∃ S : Nat, s = (S : Int) := ⟨s.toNat, by omega⟩
    clear hst
    have HOK : Hid (okGroup E S is) := hok
    clear hok
    have hlen := is_length HOK.out
    rw [HL.out] at hlen
    have h4 : ∀ p ∈ ps, p.xs.length = 4096 := fun p hp => HOK.out.2 (p.b, p.xs) (by rw [← hps]; exact List.mem_map.2 ⟨p, hp, rfl⟩)
    have hpl : ps.length = n := by rw [← HL.out, ← hps]; simp
    obtain ⟨rsC, lC, wC, vC⟩ := rw_cp hJ2 h4
    obtain ⟨ga, rfl, _, ⟨curA, bxA⟩, cA⟩ := owns_cells own2 (by omega)
    have CA : Hid (∀ i, i < n → w2.cell? ⟨ga, i * 2 + 1, none⟩ = some (.slice (some ⟨(rsC.getD i (0, 0)).1, 0, none⟩) 4096 (rsC.getD i (0, 0)).2)) := fun i hi => by
      rw [cA _ (by omega), (cpC_at ps i (by omega)).2, vC i (by omega)]
    have lga := bxA.lt
    clear vC cA bxA own2 hJ2
    have cP := put_S E S (some ⟨ga, 0, none⟩) n cc is w2 HL.out hIc HOK.out
    go_wp2_with fail
    refine cP.mono ?_
    rintro r w3 ⟨gl, cl, rsL, rfl, hLs, lL, wL, lgl, cL, b3⟩
    clear cP
    replace x2 := x2.below b3
    replace hIc := hIc.below b3
    replace B2 := B2.trans (b3.mono B2.size)
    have z0 := x2.cell 0
    have z1 := x2.cell 1
    have z2 := x2.cell 2
    have cP := put_S E S (some ⟨ga, 0, none⟩) n cc is w3 HL.out hIc HOK.out
    go_wp2_with fail
    refine cP.mono ?_
    rintro r w4 ⟨gm, cm, rsM, rfl, _, lM, wM, lgm, cM, b4⟩
    clear cP z0 z1 z2
    replace x2 := x2.below b4
    replace hIc := hIc.below b4
    replace B2 := B2.trans (b4.mono B2.size)
    have cG := get_putJ E S is (some ⟨gl, 0, none⟩) n (n + 1) cl w4 HOK.out HL.out rfl (hLs.below b4)
    go_wp2_with fail
    refine cG.mono ?_
    rintro r w5 ⟨a9, c9, qs, rfl, own9, hJ9, hq9, b5⟩
    clear cG
    have ba := (Below.refl _ w5).alloc (Nat.le_refl _) (.cells #[.int .i64 (E : Int), .int .i64 (S : Int), .slice a9 n c9] 28)
    have x7 := Box.new w5 #[.int .i64 (E : Int), .int .i64 (S : Int), .slice a9 n c9] 28
    have cG := get_putJ E S is (some ⟨gl, 0, none⟩) n (n + 1) cl (w5.alloc (.cells #[.int .i64 (E : Int), .int .i64 (S : Int), .slice a9 n c9] 28)) HOK.out HL.out rfl (((hLs.below b4).below b5).below ba)
    go_wp2_with fail
    refine cG.mono ?_
    rintro r w6 ⟨a8, c8, ts, rfl, own8, hJ8, hq8, b6⟩
    clear cG hLs
    have bb := (Below.refl _ w6).alloc (Nat.le_refl _) (.cells #[.int .i64 (E : Int), .int .i64 (S : Int), .slice a8 n c8] 28)
    have x9 := Box.new w6 #[.int .i64 (E : Int), .int .i64 (S : Int), .slice a8 n c8] 28
    have t5 := b6.trans (bb.mono b6.size)
    have t4' := ba.trans (t5.mono ba.size)
    have t4 := b5.trans (t4'.mono b5.size)
    have t3 := b4.trans (t4.mono b4.size)
    have t2 := b3.trans (t3.mono b3.size)
    have lq9 : qs.length = n := by rw [← HL.out, ← hq9]; simp
    have lq8 : ts.length = n := by rw [← HL.out, ← hq8]; simp
    have i9 := imgs_of own9 hJ9 lq9
    have i8 := imgs_of own8 hJ8 lq8
    rw [hq9] at i9
    rw [hq8] at i8
    obtain ⟨gx, rfl, _, _, _⟩ := owns_cells own9 (by omega)
    obtain ⟨gy, rfl, _, _, _⟩ := owns_cells own8 (by omega)
    obtain ⟨lgx, CX⟩ := img_cells own9 lq9 (by omega)
    obtain ⟨lgy, CY⟩ := img_cells own8 lq8 (by omega)
    have hall := rw_all (b0 := w.heap.size) (T := w6.heap.size) (n := n) (wC.below t2) (wL.below t3) (wM.below t4) ((rw_get hJ9).below t4') ((rw_get hJ8).below bb) (by omega) (by simpa using lq9) (by simpa using lq8) (Nat.le_of_lt base.out) hBw2 b3.size b4.size b5.size ba.size b6.size (Nat.le_refl _)
    have hS : SpS w (w6.alloc (.cells #[.int .i64 (E : Int), .int .i64 (S : Int), .slice (some ⟨gy, 0, none⟩) n c8] 28)) n ga gx gy gl gm w5.heap.size w6.heap.size cc c9 c8 E S w6.heap.size rsC (qs.map fun p => (p.h, p.c)) (ts.map fun p => (p.h, p.c)) rsL rsM is :=
      { x1 := x2.below t4, x7 := x7.below t5, x9 := x9, ia := hIc.below t4, ix := i9.below t4', iy := i8.below bb,
        ca := fun i hi => (t2.cell (p := ⟨ga, i * 2 + 1, none⟩) lga).trans (CA.out i hi), cx := fun i hi => (t4'.cell (p := ⟨gx, i * 2 + 1, none⟩) lgx).trans (CX i hi), cy := fun i hi => (bb.cell (p := ⟨gy, i * 2 + 1, none⟩) lgy).trans (CY i hi),
        la := Nat.lt_of_lt_of_le lga t2.size, lx := Nat.lt_of_lt_of_le lgx t4'.size, ly := Nat.lt_of_lt_of_le lgy bb.size, ll := Nat.lt_of_lt_of_le lgl t3.size, lm := Nat.lt_of_lt_of_le lgm t4.size,
        cl := fun j hj => (t3.cell (p := ⟨gl, j, none⟩) lgl).trans (cL j hj), cm := fun j hj => (t4.cell (p := ⟨gm, j, none⟩) lgm).trans (cM j hj), rows := hall, B := B2.trans (t4.mono B2.size) }
    have lLM : Hid (rsL.length = n + 1 ∧ rsM.length = n + 1) := ⟨lL, lM⟩
    clear t2 t3 t4 t4' t5 ba bb b3 b4 b5 b6 hall CX CY CA i8 i9 own8 own9 hJ8 hJ9 hq8 hq9 x2 x7 x9 hIc wC wL wM lga lgx lgy lgl lgm cL cM B2 lL lM lC h4 hps hpl lq8 lq9
    generalize (qs.map fun p => (p.h, p.c)) = rsX at hS
    generalize (ts.map fun p => (p.h, p.c)) = rsY at hS
    have z0 := hS.x1.cell 0
    have z1 := hS.x1.cell 1
    have z2 := hS.x1.cell 2
    have y0 := hS.x7.cell 0
    have y1 := hS.x7.cell 1
    have y2 := hS.x7.cell 2
    have v0 := hS.x9.cell 0
    have v1 := hS.x9.cell 1
    have v2 := hS.x9.cell 2
    go_wp2_with fail
    refine (sameGroup_at _ _ _ _ _ _ n _ n _ is is _ HL.out HL.out (by omega) hS.ix hS.iy).mono ?_
    rintro r w7 ⟨rfl, b7⟩
    rw [decide_eq_true ⟨rfl, rfl, rfl⟩]
    clear z0 z1 z2 y0 y1 y2 v0 v1 v2
    replace hS := hS.below b7
    clear b7
    have z0 := hS.x1.cell 0
    have z1 := hS.x1.cell 1
    have z2 := hS.x1.cell 2
    have y0 := hS.x7.cell 0
    have y1 := hS.x7.cell 1
    have y2 := hS.x7.cell 2
    go_wp2_with fail
    refine (sameGroup_at _ _ _ _ _ _ n _ n _ is is _ HL.out HL.out (by omega) hS.ix hS.ia).mono ?_
    rintro r w8 ⟨rfl, b8⟩
    rw [decide_eq_true ⟨rfl, rfl, rfl⟩]
    clear z0 z1 z2 y0 y1 y2
    replace hS := hS.below b8
    clear b8
    have HS : Hid (SpS w w8 n ga gx gy gl gm w5.heap.size w6.heap.size cc c9 c8 E S w6.heap.size rsC rsX rsY rsL rsM is) := hS
    clear hS
    have hn0 : World.ownsRow w8 w8.heap.size 31 1 (.slice none 0 0) 0 [] := World.ownsRow_nil _ _ _ _
    have hcL : ∀ j u, (rcC rsL)[j]? = some u → w8.cell? ((⟨gl, 0, none⟩ : Addr).add j) = some u := fun j u hj => by
      have hlj : j < n + 1 := by
        have := (List.getElem?_eq_some_iff.1 hj).1
        simpa [rcC, lLM.out.1] using this
      rw [Addr.add_lit, Nat.zero_add, HS.out.cl j hlj]
      exact hj
    have hcM : ∀ j u, (rcC rsM)[j]? = some u → w8.cell? ((⟨gm, 0, none⟩ : Addr).add j) = some u := fun j u hj => by
      have hlj : j < n + 1 := by
        have := (List.getElem?_eq_some_iff.1 hj).1
        simpa [rcC, lLM.out.2] using this
      rw [Addr.add_lit, Nat.zero_add, HS.out.cm j hlj]
      exact hj
    have one : ∀ rs : List (Nat × Nat), ∀ u ∈ rcC rs, u.oneCell' = true := fun rs u hu => by
      obtain ⟨q, _, rfl⟩ := List.mem_map.1 hu
      rfl
    have lenL : (rcC rsL).length = (n + 1) * 1 := by simp [rcC, lLM.out.1]
    have lenM : (rcC rsM).length = (n + 1) * 1 := by simp [rcC, lLM.out.2]
    have HcM : Hid (∀ j u, (rcC rsM)[j]? = some u → w8.cell? ((⟨gm, 0, none⟩ : Addr).add j) = some u) := hcM
    clear hcM
    go_wp2_with (at_builtin; refine wpList_append_own _ rfl _ _ 22 rfl w8.heap.size 31 j0 (.slice none 0 0) 1 24 Try.underlying22 ji jz0 jz1 jz2 rfl (by decide) _ 0 _ rfl hn0 ⟨gl, 0, none⟩ (n + 1) cl (rcC rsL) rfl lenL hcL (one _) ?c3 ?c4 (Nat.le_refl _) ?_)
    case c3 => unfold maxLen; omega
    case c4 => omega
    intro vA wA ownA grA _
    have bA : Below w8.heap.size w8 wA := (Below.refl _ _).grown grA (Nat.le_refl _) (fun j e => by simp [Value.ownBlock] at e)
    have hcM2 : ∀ j u, (rcC rsM)[j]? = some u → wA.cell? ((⟨gm, 0, none⟩ : Addr).add j) = some u := fun j u hj => by
      have := HcM.out j u hj
      rw [Addr.add_lit] at this ⊢
      rw [bA.cell (p := ⟨gm, 0 + j, none⟩) HS.out.lm]
      exact this
    clear hn0 hcL grA HcM
    obtain ⟨av, cv, rfl⟩ := owns_shape ownA
    go_wp2_with (at_builtin; refine wpList_append_own _ rfl _ _ 22 rfl w8.heap.size 31 j0 (.slice none 0 0) 1 24 Try.underlying22 ji jz0 jz1 jz2 rfl (by decide) _ (n + 1) _ rfl ownA ⟨gm, 0, none⟩ (n + 1) cm (rcC rsM) rfl lenM hcM2 (one _) ?c3 ?c4 bA.size ?_)
    case c3 => unfold maxLen; omega
    case c4 => omega
    intro vB wB ownB grB _
    have bB : Below w8.heap.size w8 wB := bA.grown grB bA.size (fun j e => (owns_block ownA j e).1)
    clear ownA grB hcM2 bA
    have OB : Hid (wB.ownsRow w8.heap.size 31 1 vB (2 * (n + 1) + 3 * 0) (rcC (rsL ++ rsM ++ trio rsC rsX rsY 0))) := by
      have e1 : rcC (rsL ++ rsM ++ trio rsC rsX rsY 0) = rcC rsL ++ rcC rsM := by simp [rcC, trio]
      rw [e1, show 2 * (n + 1) + 3 * 0 = n + 1 + (n + 1) by omega]
      exact ownB
    clear ownB lenL lenM
    go_wp2_with fail
    go_loopw [11, 12] (fun v11 v12 u => ∃ k : Nat, k ≤ n ∧ v12 = .int .i64 (k : Int) ∧ u.ownsRow w8.heap.size 31 1 v11 (2 * (n + 1) + 3 * k) (rcC (rsL ++ rsM ++ trio rsC rsX rsY k)) ∧ Below w8.heap.size w8 u) (fun _ i _ => n - (intOf i).toNat)
    case atStart => exact ⟨0, Nat.zero_le _, rfl, OB.out, bB⟩
    case round =>
      clear OB bB
      obtain ⟨k, hk, rfl, own, b⟩ := hrel
      have hS := HS.out.below b
      have z2 := hS.x1.cell 2
      have y2 := hS.x7.cell 2
      have v2 := hS.x9.cell 2
      obtain ⟨av', cv', rfl⟩ := owns_shape own
      have OWN : Hid (wr.ownsRow w8.heap.size 31 1 (.slice av' (2 * (n + 1) + 3 * k) cv') (2 * (n + 1) + 3 * k) (rcC (rsL ++ rsM ++ trio rsC rsX rsY k))) := own
      clear own
      by_cases hlt : k < n
      · have ca := hS.ca k hlt
        have cx := hS.cx k hlt
        have cy := hS.cy k hlt
        have hts : Hid (trio rsC rsX rsY (k + 1) = trio rsC rsX rsY k ++ [rsC.getD k (0, 0), rsX.getD k (0, 0), rsY.getD k (0, 0)]) := trio_succ _ _ _ _
        generalize rsC.getD k (0, 0) = pc at ca hts
        generalize rsX.getD k (0, 0) = px at cx hts
        generalize rsY.getD k (0, 0) = py at cy hts
        obtain ⟨hc, cc1⟩ := pc
        obtain ⟨hx, cx1⟩ := px
        obtain ⟨hy, cy1⟩ := py
        dsimp only at ca cx cy
        have HC : Hid (∀ u : World, Below w8.heap.size w8 u → u.cell? ⟨w.heap.size, 2, none⟩ = some (.slice (some ⟨ga, 0, none⟩) n cc) ∧ u.cell? ⟨w5.heap.size, 2, none⟩ = some (.slice (some ⟨gx, 0, none⟩) n c9) ∧ u.cell? ⟨w6.heap.size, 2, none⟩ = some (.slice (some ⟨gy, 0, none⟩) n c8) ∧
            u.cell? ⟨ga, k * 2 + 1, none⟩ = some (.slice (some ⟨hc, 0, none⟩) 4096 cc1) ∧ u.cell? ⟨gx, k * 2 + 1, none⟩ = some (.slice (some ⟨hx, 0, none⟩) 4096 cx1) ∧ u.cell? ⟨gy, k * 2 + 1, none⟩ = some (.slice (some ⟨hy, 0, none⟩) 4096 cy1)) := fun u hu =>
          ⟨(HS.out.x1.below hu).cell 2, (HS.out.x7.below hu).cell 2, (HS.out.x9.below hu).cell 2,
           (hu.cell (p := ⟨ga, k * 2 + 1, none⟩) HS.out.la).trans ((b.cell (p := ⟨ga, k * 2 + 1, none⟩) HS.out.la).symm.trans ca), (hu.cell (p := ⟨gx, k * 2 + 1, none⟩) HS.out.lx).trans ((b.cell (p := ⟨gx, k * 2 + 1, none⟩) HS.out.lx).symm.trans cx), (hu.cell (p := ⟨gy, k * 2 + 1, none⟩) HS.out.ly).trans ((b.cell (p := ⟨gy, k * 2 + 1, none⟩) HS.out.ly).symm.trans cy)⟩
        have hki : (k : Int) < (n : Int) := by omega
        have hk0 : (0 : Int) ≤ (k : Int) := by omega
        clear hS
        go_upto_region 16 with fail
        clear z2 y2 v2 ca cx cy
        have BD : Below w8.heap.size w8 ((wr.alloc (.cells #[.slice (some ⟨hc, 0, none⟩) 4096 cc1, .slice (some ⟨hx, 0, none⟩) 4096 cx1, .slice (some ⟨hy, 0, none⟩) 4096 cy1] 31)).drew) := (b.alloc b.size _).drew
        have OD : Hid (((wr.alloc (.cells #[.slice (some ⟨hc, 0, none⟩) 4096 cc1, .slice (some ⟨hx, 0, none⟩) 4096 cx1, .slice (some ⟨hy, 0, none⟩) 4096 cy1] 31)).drew).ownsRow w8.heap.size 31 1 (.slice av' (2 * (n + 1) + 3 * k) cv') (2 * (n + 1) + 3 * k) (rcC (rsL ++ rsM ++ trio rsC rsX rsY k))) := owns_below OWN.out ((((Below.refl wr.heap.size wr)).alloc (Nat.le_refl _) _).drew)
        go_region_held3 (fun u => u.cell? ⟨w.heap.size, 2, none⟩ = some (.slice (some ⟨ga, 0, none⟩) n cc) ∧ u.cell? ⟨w5.heap.size, 2, none⟩ = some (.slice (some ⟨gx, 0, none⟩) n c9) ∧ u.cell? ⟨w6.heap.size, 2, none⟩ = some (.slice (some ⟨gy, 0, none⟩) n c8) ∧
            u.cell? ⟨ga, k * 2 + 1, none⟩ = some (.slice (some ⟨hc, 0, none⟩) 4096 cc1) ∧ u.cell? ⟨gx, k * 2 + 1, none⟩ = some (.slice (some ⟨hx, 0, none⟩) 4096 cx1) ∧ u.cell? ⟨gy, k * 2 + 1, none⟩ = some (.slice (some ⟨hy, 0, none⟩) 4096 cy1))
          (first | with_reducible exact HC.out _ b.drew | with_reducible exact HC.out _ BD | with_reducible exact HC.out _ BE)
          ((refine step_append_lies _ (by rfl) _ _ _ (by rfl) w8.heap.size 31 j0 (.slice none 0 0) 1 24 Try.underlying22 ji jz0 jz1 jz2 rfl (by omega) (.slice av' (2 * (n + 1) + 3 * k) cv') (2 * (n + 1) + 3 * k) (rcC (rsL ++ rsM ++ trio rsC rsX rsY k)) (by rfl) OD.out
                ⟨wr.heap.size, 0, none⟩ 3 3 [.slice (some ⟨hc, 0, none⟩) 4096 cc1, .slice (some ⟨hx, 0, none⟩) 4096 cx1, .slice (some ⟨hy, 0, none⟩) 4096 cy1] (by rfl) (by rfl) (World.news_of_block (cs := #[.slice (some ⟨hc, 0, none⟩) 4096 cc1, .slice (some ⟨hx, 0, none⟩) 4096 cx1, .slice (some ⟨hy, 0, none⟩) 4096 cy1]) (t := 31) (fr := (0, 0)) (heap_alloc_new wr.drew _)) (by intro u hu; simp at hu; rcases hu with rfl | rfl | rfl <;> rfl)
                (by omega) (by unfold maxLen; omega) (by omega) BD.size (wr.heap.size + 1) (by simp) ?_
            intro gg gc w1 hown1 hgrow hat hlt1
            have BE := BD.grown hgrow BD.size (fun j e => (owns_block OD.out j e).1)
            clear hgrow hat hlt1))
        have OE : Hid (w1.ownsRow w8.heap.size 31 1 (.slice (some ⟨gg, 0, none⟩) (2 * (n + 1) + 3 * k + 3) gc) (2 * (n + 1) + 3 * (k + 1)) (rcC (rsL ++ rsM ++ trio rsC rsX rsY (k + 1)))) := by
          have e1 : rcC (rsL ++ rsM ++ trio rsC rsX rsY (k + 1)) = rcC (rsL ++ rsM ++ trio rsC rsX rsY k) ++ [.slice (some ⟨hc, 0, none⟩) 4096 cc1, .slice (some ⟨hx, 0, none⟩) 4096 cx1, .slice (some ⟨hy, 0, none⟩) 4096 cy1] := by
            rw [hts.out]
            simp [rcC]
          rw [e1]
          exact hown1
        clear hown1 OD BD
        go_wp2_with fail
        go_roundw
        case rel => exact ⟨k + 1, by omega, by push_cast; rfl, OE.out, BE⟩
        case measure => simp [intOf]; omega
      · have hke : k = n := by omega
        rw [hke] at OWN ⊢
        clear hke hlt hk
        have HN : Hid (2 * (n + 1) + 3 * n ≤ 400) := by show _ ≤ _; omega
        obtain ⟨N, hN⟩ : ∃ N, N = 2 * (n + 1) + 3 * n := ⟨_, rfl⟩
        rw [← hN] at OWN HN ⊢
        have HNN : Hid (N = 2 * (n + 1) + 3 * n) := hN
        clear hN
        obtain ⟨gz, hgz, lgz, ⟨LA, bxz⟩, hcz⟩ := owns_cells OWN.out (by rw [HNN.out]; omega)
        subst hgz
        have hall := hS.rows
        have hBS := hS.B
        have lenA : (rsL ++ rsM ++ trio rsC rsX rsY n).length = N := by
          rw [HNN.out, List.length_append, List.length_append, lLM.out.1, lLM.out.2, trio_length]
          omega
        generalize (rsL ++ rsM ++ trio rsC rsX rsY n) = A at hall hcz lenA OWN
        have cAp := Apart.apart_at N gz cv' (fun i => (A.getD i (0, 0)).1) (fun _ => 4096) (fun i => (A.getD i (0, 0)).2) wr HN.out
          ⟨LA, bxz, fun i hi => by
            have h1 := hcz i (by omega)
            rw [bxz.cell i] at h1
            rw [h1]
            simp [rcC, show i < A.length by omega]⟩
          (fun i hi => by
            obtain ⟨⟨ys, hr, _⟩, _⟩ := hall.rows _ (getD_mem (show i < A.length by omega))
            obtain ⟨cur, hb, _, _, hc, _⟩ := hr
            exact ⟨cur, hb, hc⟩)
          (fun i hi => by
            obtain ⟨⟨ys, hr, hy4⟩, _⟩ := hall.rows _ (getD_mem (show i < A.length by omega))
            obtain ⟨cur, hb, h1, h2, _⟩ := hr
            exact ⟨by rw [← hy4]; exact h1, h2, by omega⟩)
          (fun i hi q hq hne e => hne (getD_inj hall.apart (by omega) (by omega) e))
        have HF : Hid (∀ i, i < N → w.heap.size ≤ (A.getD i (0, 0)).1) := fun i hi => (hall.rows _ (getD_mem (show i < A.length by omega))).2.1
        clear hall hcz lenA bxz OWN HNN
        go_wp2_with fail
        refine cAp.mono ?_
        rintro r w9 ⟨rfl, hbut⟩
        have B9 : Below w.heap.size w w9 := ⟨hbut.os.trans hBS.os, hbut.tape.trans hBS.tape, hbut.output.trans hBS.output, Nat.le_trans hBS.size hbut.size, fun i hi => (hbut.block i (Nat.lt_of_lt_of_le hi hBS.size) (fun q hq e => by have := HF.out q hq; omega)).trans (hBS.block i hi)⟩
        clear cAp hbut hS
        go_wp2_with fail
        refine (HA.out _).mono ?_
        rintro r w10 ⟨rfl, b10⟩
        have B10 := B9.trans (b10.mono B9.size)
        go_wp2_with fail
        go_ret
        exact ⟨rfl, B10⟩
  · have cP := put_no e s ac n cc is w2 HL.out hn hIc hok
    clear hok
    go_wp2_with fail
    refine cP.mono ?_
    rintro r w3 ⟨rfl, b3⟩
    have B3 := B2.trans (b3.mono B2.size)
    go_wp2_with fail
    refine (HA.out _).mono ?_
    rintro r w4 ⟨rfl, b4⟩
    have B4 := B3.trans (b4.mono B3.size)
    go_wp2_with fail
    go_ret
    exact ⟨rfl, B4⟩
end Go.Proofs.Ytghcmlkgpedkkaa
