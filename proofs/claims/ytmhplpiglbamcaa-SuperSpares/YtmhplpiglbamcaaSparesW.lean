/-
  SuperSpares, where all is put.
-/
import Derived.Test.YtmhplpiglbamcaaSpares
namespace Go.Proofs.Ytmhplpiglbamcaa
open Go.RowKit

theorem owns_zero {w : World} {B e z n : Nat} {v : Value} {xs : List Value} (h : w.ownsRow B e z v n xs) : w.ownsRow 0 e z v n xs := by
  refine ⟨h.1, ?_⟩
  rcases h.2 with h0 | ⟨g, cap, cur, hv, _, r⟩
  · exact .inl h0
  · exact .inr ⟨g, cap, cur, hv, Nat.zero_le _, r⟩
theorem owns_later {w w' : World} {B e z n : Nat} {v : Value} {xs : List Value} (h : w.ownsRow B e z v n xs) (b : Below w.heap.size w w') : w'.ownsRow B e z v n xs := by
  refine ⟨h.1, ?_⟩
  rcases h.2 with h0 | ⟨g, cap, cur, hv, hb, hg, r⟩
  · exact .inl h0
  · exact .inr ⟨g, cap, cur, hv, hb, (b.block g (Array.getElem?_eq_some_iff.1 hg).1).trans hg, r⟩
theorem but_below {w0 w w' : World} {ga gb gc : Nat} (B : Below w0.heap.size w0 w) (h : Apart.But 3 (of3 ga gb gc) w w') (h1 : w0.heap.size ≤ ga) (h2 : w0.heap.size ≤ gb) (h3 : w0.heap.size ≤ gc) : Below w0.heap.size w0 w' :=
  ⟨h.os.trans B.os, h.tape.trans B.tape, h.output.trans B.output, Nat.le_trans B.size h.size, fun k hk => (but3 h k (Nat.lt_of_lt_of_le hk B.size) (by omega) (by omega) (by omega)).trans (B.block k hk)⟩
theorem RE_rd {w : World} {B n cap : Nat} {a : Option Addr} {es : List Ext} (h : w.ownsRow B 46 3 (.slice a n cap) n (ecs es)) : RdE w a es := by
  obtain ⟨a', c, hv, _, _, _, hr, _⟩ := ownsE_parts h
  cases hv
  exact hr
/-- bytes of one's own in block g -/
def RB (w : World) (g n cap : Nat) (xs : List UInt8) : Prop := w.ownsRow 0 5 1 (.slice (some ⟨g, 0, none⟩) n cap) n (bcs xs)
theorem RB.below {w w' : World} {g n cap : Nat} {xs : List UInt8} (h : RB w g n cap xs) (b : Below w.heap.size w w') : RB w' g n cap xs := owns_later h b
theorem RB.rd {w : World} {g n cap : Nat} {xs : List UInt8} (h : RB w g n cap xs) : Rd w (some ⟨g, 0, none⟩) xs := by
  obtain ⟨a, c, hv, _, _, _, hr, _⟩ := owns_parts h
  cases hv
  exact hr
/-- extents of one's own; nothing is said of where -/
def RE (w : World) (B : Nat) (v : Value) (es : List Ext) : Prop := w.ownsRow B 46 3 v es.length (ecs es)
theorem RE.below {w w' : World} {B : Nat} {v : Value} {es : List Ext} (h : RE w B v es) (b : Below w.heap.size w w') : RE w' B v es := owns_later h b
theorem RE.but {w w' : World} {B ga gb gc na ca nb cb nc cc : Nat} {xa xb xc : List UInt8} {v : Value} {es : List Ext} (h : RE w B v es) (ha : RB w ga na ca xa) (hb : RB w gb nb cb xb) (hc : RB w gc nc cc xc) (bt : Apart.But 3 (of3 ga gb gc) w w') : RE w' B v es := by
  refine ⟨h.1, ?_⟩
  rcases h.2 with h0 | ⟨g, cap, cur, hv, hB, hg, r⟩
  · exact .inl h0
  · refine .inr ⟨g, cap, cur, hv, hB, (but3 bt g (Array.getElem?_eq_some_iff.1 hg).1 ?_ ?_ ?_).trans hg, r⟩
    · exact fun e => own_tag ha hg (by decide) (by simp [Value.ownBlock, e])
    · exact fun e => own_tag hb hg (by decide) (by simp [Value.ownBlock, e])
    · exact fun e => own_tag hc hg (by decide) (by simp [Value.ownBlock, e])
theorem Box.but {w w' : World} {ga gb gc na ca nb cb nc cc g : Nat} {cs : Array Value} {xa xb xc : List UInt8} (h : Box w g cs 32) (ha : RB w ga na ca xa) (hb : RB w gb nb cb xb) (hc : RB w gc nc cc xc) (bt : Apart.But 3 (of3 ga gb gc) w w') : Box w' g cs 32 := by
  refine (but3 bt g h.lt ?_ ?_ ?_).trans h
  · exact fun e => own_tag ha h (by decide) (by simp [Value.ownBlock, e])
  · exact fun e => own_tag hb h (by decide) (by simp [Value.ownBlock, e])
  · exact fun e => own_tag hc h (by decide) (by simp [Value.ownBlock, e])
theorem puts_rb {w w' : World} {o : Option (List UInt8)} {r : Ending} {xs : List UInt8} {n : Nat} (h : Puts w w' o r) (ho : o = some xs) (hl : xs.length = n) (h0 : 0 < n) :
    ∃ g cap, r = .returned (.tuple #[.slice (some ⟨g, 0, none⟩) n cap, .int .i64 0]) ∧ RB w' g n cap xs ∧ w.heap.size ≤ g ∧ g < w'.heap.size ∧ n ≤ cap ∧ cap ≤ 9223372036854775807 ∧ Below w.heap.size w w' := by
  obtain ⟨g, cap, hr, ow, h1, h2, h3, h4, b⟩ := puts_block h ho hl h0
  exact ⟨g, cap, hr, owns_zero ow, h1, h2, h3, h4, b⟩
/-- what is stored in a row of extents leaves the other -/
theorem RE.other {w w' : World} {B : Nat} {v : Value} {es : List Ext} (h : RE w B v es) (gx : Nat) (hx : gx < B) (gr : w.grownBy w' (some gx)) : RE w' B v es :=
  h.kept gr (by
    rcases h.2 with ⟨rfl, _⟩ | ⟨g, cap, cur, rfl, hB, _⟩
    · exact .inl rfl
    · exact .inr (by simp [Value.ownBlock]; omega))

set_option maxRecDepth 100000 in
set_option maxHeartbeats 4000000 in
theorem spares_some (k : Nat) (l s d : Int) (ai : Option Addr) (m ci : Nat) (is : List Ext) (a : Option Addr) (n cap : Nat) (es : List Ext) (w : World) (hn : n ≤ 300) (hm : m ≤ 300) (xi : Exts w ai m ci is) (xe : Exts w a n cap es)
    (I N : List UInt8) (hI : putInode k l s is d = some I) (lI : I.length = 64) (gI : getInode I = some ⟨k, l, s, is, d⟩) (hN : putNode es = some N) (lN : N.length = 4096) (gN : getNode N = some es) :
    Calls Try.prog 8 #[.agg #[.int .u8 (k : Int), .int .i64 l, .int .i64 s, .slice ai m ci, .int .i64 d], .slice a n cap] w fun r w' => r = .returned (.bool true) ∧ Below w.heap.size w w' := by
  have B0 := (Below.refl w.heap.size w).alloc (Nat.le_refl _) (.cells #[.int .u8 (k : Int), .int .i64 l, .int .i64 s, .slice ai m ci, .int .i64 d] 32)
  have n3 : ¬ 300 < (n : Int) := by omega
  have m3 : ¬ 300 < (m : Int) := by omega
  have cI := fun u (b : Below w.heap.size w u) => putInode_at k m ci l s d ai is u xi.len (by omega) xi.wf (xi.rd.below b (Nat.le_refl _))
  have cN := fun u (b : Below w.heap.size w u) => putNode_at cap n a es u xe.len (by omega) xe.wf (xe.rd.below b (Nat.le_refl _))
  have bx := Box.new w #[.int .u8 (k : Int), .int .i64 l, .int .i64 s, .slice ai m ci, .int .i64 d] 32
  have XI : Hid _ := xi
  have XE : Hid _ := xe
  have HI : Hid _ := cI
  have HN : Hid _ := cN
  have Hq1 : Hid _ := hI
  have Hq2 : Hid _ := lI
  have Hq3 : Hid _ := gI
  have Hq4 : Hid _ := hN
  have Hq5 : Hid _ := lN
  have Hq6 : Hid _ := gN
  clear cI cN xi xe hI lI gI hN lN gN
  go_enter Try.func8, Try.ntmps8
  go_wp2_with fail
  refine (HI.out _ B0).mono ?_
  rintro r w1 h1
  obtain ⟨ga, ca, rfl, oa, gal, gau, la, ma, b1⟩ := puts_rb h1 Hq1.out Hq2.out (by omega)
  have B1 := B0.trans (b1.mono B0.size)
  have bx1 := bx.below b1
  have G1 : Hid (w.heap.size < ga ∧ ga < w1.heap.size) := by
    show _ ∧ _
    simp at gal
    omega
  clear h1 bx b1 gal gau B0
  go_wp2_with fail
  refine (HN.out _ B1).mono ?_
  rintro r w2 h2
  obtain ⟨gb, cb, rfl, ob, gbl, gbu, lb, mb, b2⟩ := puts_rb h2 Hq4.out Hq5.out (by omega)
  have B2 := B1.trans (b2.mono B1.size)
  have bx2 := bx1.below b2
  have oa2 := oa.below b2
  have G2 : Hid (w1.heap.size ≤ gb ∧ gb < w2.heap.size) := ⟨gbl, gbu⟩
  clear h2 bx1 b2 gbl gbu B1 oa
  have q0 := bx2.cell 0
  have q1 := bx2.cell 1
  have q2 := bx2.cell 2
  have q3 := bx2.cell 3
  have q4 := bx2.cell 4
  simp only [List.getElem?_toArray, List.getElem?_cons_zero, List.getElem?_cons_succ] at q0 q1 q2 q3 q4
  go_wp2_with fail
  clear q0 q1 q2 q3 q4
  refine (HI.out _ B2).mono ?_
  rintro r w3 h3
  obtain ⟨gc, cc, rfl, oc, gcl, gcu, lc, mc, b3⟩ := puts_rb h3 Hq1.out Hq2.out (by omega)
  have B3 := B2.trans (b3.mono B2.size)
  have bx3 := bx2.below b3
  have oa3 := oa2.below b3
  have ob3 := ob.below b3
  have G3 : Hid (w2.heap.size ≤ gc ∧ gc < w3.heap.size) := ⟨gcl, gcu⟩
  clear h3 bx2 b3 gcl gcu B2 oa2 ob HI HN Hq1 Hq4
  have cX := getNode_at 4096 cb (some ⟨gb, 0, none⟩) N w3 Hq5.out lb mb ob3.rd
  go_wp2_with fail
  refine cX.mono ?_
  rintro r w4 h4
  obtain ⟨vx, rfl, ox, b4⟩ := getsN_some h4 Hq6.out
  clear cX h4
  obtain ⟨ax, cx, rfl, _, lx, mx, _, _, hx4⟩ := ownsE_parts ox
  have HX : Hid (∀ ad, ax = some ad → ad.block < w4.heap.size) := fun ad h => (hx4 ad h).2
  clear hx4
  have ox4 : RE w4 w3.heap.size _ es := ox
  have B4 := B3.trans (b4.mono B3.size)
  have bx4 := bx3.below b4
  have oa4 := oa3.below b4
  have ob4 := ob3.below b4
  have oc4 := oc.below b4
  have G4 : Hid (w3.heap.size ≤ w4.heap.size) := b4.size
  clear ox b4 B3 bx3 oa3 ob3 oc
  have hel : es.length = n := XE.out.len
  rw [hel]
  have cY := getNode_at 4096 cb (some ⟨gb, 0, none⟩) N w4 Hq5.out lb mb ob4.rd
  have Hel : Hid _ := hel
  clear hel
  go_wp2_with fail
  refine cY.mono ?_
  rintro r w5 h5
  obtain ⟨vy, rfl, oy, b5⟩ := getsN_some h5 Hq6.out
  clear cY h5
  obtain ⟨ay, cy, rfl, _, ly, my, _⟩ := ownsE_parts oy
  have oy5 : RE w5 w4.heap.size _ es := oy
  have ox5 := ox4.below b5
  have B5 := B4.trans (b5.mono B4.size)
  have bx5 := bx4.below b5
  have oa5 := oa4.below b5
  have ob5 := ob4.below b5
  have oc5 := oc4.below b5
  clear oy b5 B4 bx4 oa4 ob4 oc4 ox4
  rw [Hel.out]
  have cZ := getInode_at 64 ca (some ⟨ga, 0, none⟩) I w5 Hq2.out la ma oa5.rd
  go_wp2_with fail
  refine cZ.mono ?_
  rintro r w6 h6
  obtain ⟨vm, rfl, om, b6⟩ := getsI_some h6 Hq3.out
  clear cZ h6
  dsimp only at om
  obtain ⟨am, cm, rfl, _, lm, mm, _⟩ := ownsE_parts om
  have om6 : RE w6 w5.heap.size _ is := om
  have ox6 := ox5.below b6
  have oy6 := oy5.below b6
  have B6 := B5.trans (b6.mono B5.size)
  have bx6 := bx5.below b6
  have oa6 := oa5.below b6
  have ob6 := ob5.below b6
  have oc6 := oc5.below b6
  clear om b6 B5 bx5 oa5 ob5 oc5 ox5 oy5
  have hil : is.length = m := XI.out.len
  rw [hil]
  have Hil : Hid _ := hil
  clear hil
  dsimp only
  -- the box of the inode that was got
  have A1 := (Below.refl w6.heap.size w6).alloc (Nat.le_refl _) (.cells #[.int .u8 (k : Int), .int .i64 l, .int .i64 s, .slice am m cm, .int .i64 d] 32)
  have bm7 := Box.new w6 #[.int .u8 (k : Int), .int .i64 l, .int .i64 s, .slice am m cm, .int .i64 d] 32
  obtain ⟨gm, hgm⟩ : ∃ gm, gm = w6.heap.size := ⟨_, rfl⟩
  obtain ⟨w7, hw7⟩ : ∃ w7, w7 = w6.alloc (.cells #[.int .u8 (k : Int), .int .i64 l, .int .i64 s, .slice am m cm, .int .i64 d] 32) := ⟨_, rfl⟩
  rw [← hw7] at A1 bm7
  rw [← hgm] at bm7
  have om7 := om6.below A1
  have ox7 := ox6.below A1
  have oy7 := oy6.below A1
  have B7 := B6.trans (A1.mono B6.size)
  have bx7 := bx6.below A1
  have oa7 := oa6.below A1
  have ob7 := ob6.below A1
  have oc7 := oc6.below A1
  clear om6 ox6 oy6 B6 bx6 oa6 ob6 oc6 A1
  -- the list of the three
  have A2 := (Below.refl w7.heap.size w7).alloc (Nat.le_refl _) (.cells #[.slice (some ⟨ga, 0, none⟩) 64 ca, .slice (some ⟨gb, 0, none⟩) 4096 cb, .slice (some ⟨gc, 0, none⟩) 64 cc] 22)
  have bl8 := Box.new w7 #[.slice (some ⟨ga, 0, none⟩) 64 ca, .slice (some ⟨gb, 0, none⟩) 4096 cb, .slice (some ⟨gc, 0, none⟩) 64 cc] 22
  obtain ⟨gl, hgl⟩ : ∃ gl, gl = w7.heap.size := ⟨_, rfl⟩
  obtain ⟨w8, hw8⟩ : ∃ w8, w8 = w7.alloc (.cells #[.slice (some ⟨ga, 0, none⟩) 64 ca, .slice (some ⟨gb, 0, none⟩) 4096 cb, .slice (some ⟨gc, 0, none⟩) 64 cc] 22) := ⟨_, rfl⟩
  rw [← hw8] at A2 bl8
  rw [← hgl] at bl8
  have om8 := om7.below A2
  have ox8 := ox7.below A2
  have oy8 := oy7.below A2
  have B8 := B7.trans (A2.mono B7.size)
  have bx8 := bx7.below A2
  have bm8 := bm7.below A2
  have oa8 := oa7.below A2
  have ob8 := ob7.below A2
  have oc8 := oc7.below A2
  clear om7 ox7 oy7 B7 bx7 oa7 ob7 oc7 A2 bm7
  have g1 := G1.out
  have g2 := G2.out
  have g3 := G3.out
  have cA := apart3 gl oa8 ob8 oc8 (by omega) (by omega) (by omega) (by omega) (by omega) (by omega) bl8
  clear g1 g2 g3
  have Hw7 : Hid _ := hw7
  have Hw8 : Hid _ := hw8
  have Hgm : Hid _ := hgm
  have Hgl : Hid _ := hgl
  clear hw7 hw8 hgm hgl
  have e8 : w6.heap.size + 1 = gl := by rw [Hgl.out, Hw7.out]; simp
  have He8 : Hid _ := e8
  clear e8 bl8
  go_wp2_with fail
  rw [He8.out, ← Hw7.out, ← Hw8.out]
  refine cA.mono ?_
  rintro r w9 ⟨rfl, bt⟩
  clear cA
  have ox9 := ox8.but oa8 ob8 oc8 bt
  have oy9 := oy8.but oa8 ob8 oc8 bt
  have om9 := om8.but oa8 ob8 oc8 bt
  have bx9 := bx8.but oa8 ob8 oc8 bt
  have bm9 := bm8.but oa8 ob8 oc8 bt
  have B9 : Below w.heap.size w w9 := by
    have g1 := G1.out
    have g2 := G2.out
    have g3 := G3.out
    exact but_below B8 bt (by omega) (by omega) (by omega)
  rw [← Hgm.out]
  clear ox8 oy8 om8 bx8 bm8 B8 oa8 ob8 oc8 bt Hw7 Hw8 He8 Hgl Hgm
  have cS := sameExtents_at cx cy n n ax ay es es w9 Hel.out Hel.out (by omega) (RE_rd ox9) (RE_rd oy9)
  rw [decide_eq_true rfl] at cS
  go_wp2_with fail
  refine cS.mono ?_
  rintro r w10 ⟨rfl, b10⟩
  clear cS
  have ox10 := ox9.below b10
  have oy10 := oy9.below b10
  have om10 := om9.below b10
  have bx10 := bx9.below b10
  have bm10 := bm9.below b10
  have B10 := B9.trans (b10.mono B9.size)
  clear ox9 oy9 om9 bx9 bm9 B9 b10
  have q0 := bx10.cell 0
  have q1 := bx10.cell 1
  have q2 := bx10.cell 2
  have q3 := bx10.cell 3
  have q4 := bx10.cell 4
  simp only [List.getElem?_toArray, List.getElem?_cons_zero, List.getElem?_cons_succ] at q0 q1 q2 q3 q4
  have z0 := bm10.cell 0
  have z1 := bm10.cell 1
  have z2 := bm10.cell 2
  have z3 := bm10.cell 3
  have z4 := bm10.cell 4
  simp only [List.getElem?_toArray, List.getElem?_cons_zero, List.getElem?_cons_succ] at z0 z1 z2 z3 z4
  have om10' := om10
  unfold RE at om10'
  rw [Hil.out] at om10'
  have cI2 := sameInode_at cm ci m m am ai ⟨k, l, s, is, d⟩ ⟨k, l, s, is, d⟩ w10 Hil.out Hil.out (by omega) (RE_rd om10') (XI.out.rd.below B10 (Nat.le_refl _))
  rw [sameI_self] at cI2
  clear om10'
  go_wp2_with fail
  refine cI2.mono ?_
  rintro r w11 ⟨rfl, b11⟩
  clear cI2 q0 q1 q2 q3 q4 z0 z1 z2 z3 z4
  have ox11 := ox10.below b11
  have oy11 := oy10.below b11
  have B11 := B10.trans (b11.mono B10.size)
  clear ox10 oy10 om10 bx10 bm10 B10 b11
  unfold RE at ox11
  rw [Hel.out] at ox11
  by_cases h0 : n = 0
  · subst h0
    clear ox11
    have cE := sameExtents_at cy cap 0 0 ay a es es w11 Hel.out Hel.out (by omega) (by unfold RE at oy11; rw [Hel.out] at oy11; exact RE_rd oy11) (XE.out.rd.below B11 (Nat.le_refl _))
    rw [decide_eq_true rfl] at cE
    go_wp2_with fail
    refine wp_loop_rounds 1 ?_
    rw [rounds_succ]
    go_wp2_with fail
    refine cE.mono ?_
    rintro r w12 ⟨rfl, b12⟩
    have B12 := B11.trans (b12.mono B11.size)
    clear cE b12
    go_wp2_with fail
    refine (awake_any _).mono ?_
    rintro r w13 ⟨rfl, b13⟩
    have B13 := B12.trans (b13.mono B12.size)
    go_wp2
    go_ret
    exact ⟨rfl, B13⟩
  · obtain ⟨gx, rfl, hgx0, cur0, hb0, hs0⟩ : ∃ gx, ax = some ⟨gx, 0, none⟩ ∧ w3.heap.size ≤ gx ∧ ∃ cur : Array Value, Box w11 gx cur 46 ∧ cur.size = cx * 3 := by
      rcases ox11.2 with ⟨_, h⟩ | ⟨g, c', cur, hv, hB, hg, _, _, hs, _⟩
      · exact absurd h h0
      · cases hv
        exact ⟨g, rfl, hB, cur, hg, hs⟩
    have hgx4 : gx < w4.heap.size := HX.out _ rfl
    have lx' : n ≤ cx := by have := lx; rw [Hel.out] at this; exact this
    have wgx : w.heap.size ≤ gx := by
      have g1 := G1.out
      have g2 := G2.out
      have g3 := G3.out
      omega
    clear ox11 HX
    have oyH : Hid (RE w11 w4.heap.size (.slice ay n cy) es) := by
      show RE _ _ _ _
      rw [← Hel.out]
      exact oy11
    have B11h : Hid _ := B11
    clear oy11 B11
    go_wp2_with fail
    go_loopw [17] (fun i wr => ∃ q : Nat, q ≤ n ∧ i = .int .i64 q ∧ (∃ cur : Array Value, Box wr gx cur 46 ∧ cur.size = cx * 3) ∧ w11.grownBy wr (some gx)) (fun i _ => n - (intOf i).toNat)
    case atStart => exact ⟨0, by omega, rfl, ⟨cur0, hb0, hs0⟩, World.grownBy.refl _ _⟩
    case round =>
      clear hb0 hs0
      obtain ⟨q, hq, rfl, ⟨cur, hb, hs⟩, gr⟩ := hrel
      by_cases hlt : q < n
      · have c0 : wr.cell? ⟨gx, q * 3, none⟩ = some (cur[q * 3]'(by omega)) := by rw [hb.cell, Array.getElem?_eq_getElem]
        have f0 := hb.frozen (q * 3)
        generalize (cur[q * 3]'(by omega)) = v0 at c0
        have hb2 := hb.store (q * 3) (.int .i64 (-1))
        have gr2 := grown_trans gr (grown_store wr gx (q * 3) (.int .i64 (-1)))
        have hs2 : (cur.setIfInBounds (q * 3) (.int .i64 (-1))).size = cx * 3 := by rw [Array.size_setIfInBounds]; exact hs
        clear hb gr
        have HB2 : Hid _ := hb2
        have HG2 : Hid _ := gr2
        clear hb2 gr2
        go_wp2_with fail
        go_roundw
        case rel => exact ⟨q + 1, by omega, by go_num, ⟨_, HB2.out, hs2⟩, HG2.out⟩
        case measure => simp [intOf]; omega
      · have hqn : q = n := by omega
        subst q
        have oy12 := RE.other oyH.out gx hgx4 gr
        have B12 : Below w.heap.size w wr := B11h.out.grown gr B11h.out.size (fun k e => by cases e; exact wgx)
        have oyr : RdE wr ay es := by
          unfold RE at oy12
          rw [Hel.out] at oy12
          exact RE_rd oy12
        have cE := sameExtents_at cy cap n n ay a es es wr Hel.out Hel.out (by omega) oyr (XE.out.rd.below B12 (Nat.le_refl _))
        rw [decide_eq_true rfl] at cE
        clear oy12 oyr hb gr
        go_wp2_with fail
        refine cE.mono ?_
        rintro r w12 ⟨rfl, b12⟩
        have B13 := B12.trans (b12.mono B12.size)
        clear cE b12
        go_wp2_with fail
        refine (awake_any _).mono ?_
        rintro r w13 ⟨rfl, b13⟩
        have B14 := B13.trans (b13.mono B13.size)
        go_wp2
        go_ret
        exact ⟨rfl, B14⟩
end Go.Proofs.Ytmhplpiglbamcaa
