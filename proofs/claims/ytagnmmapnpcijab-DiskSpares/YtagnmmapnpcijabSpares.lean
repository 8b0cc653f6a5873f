/-
  DiskSpares.
-/
import Derived.Test.YtagnmmapnpcijabAwake
import Derived.Test.YtagnmmapnpcijabMade
import Derived.Test.YtagnmmapnpcijabApartWalk
namespace Go.Proofs.Ytagnmmapnpcijab
open Go.RowKit

/-- one of four -/
def of4 {α : Type} (a b c d : α) : Nat → α := fun i => if i = 0 then a else if i = 1 then b else if i = 2 then c else d
theorem row_of {w : World} {g cap : Nat} {xs : List UInt8} (h : RowB w g cap xs) (n : Nat) (hn : xs.length = n) : ∃ cur : Array Value, Apart.Box w g cur 5 ∧ cur.size = cap ∧ cap ≤ maxLen ∧ n ≤ cap := by
  obtain ⟨cur, hb, h1, h2, h3, _⟩ := h
  exact ⟨cur, hb, h3, h2, by omega⟩
theorem apart4 {w : World} {ga gb gc gd ca cb cc cd n : Nat} {xa xb xc xd : List UInt8} (gl : Nat) (ha : RowB w ga ca xa) (hb : RowB w gb cb xb) (hc : RowB w gc cc xc) (hd : RowB w gd cd xd)
    (la : xa.length = n) (lb : xb.length = n) (lc : xc.length = n) (ld : xd.length = n) (hn : n ≤ 100000) (h1 : gd < ga) (h2 : ga < gb) (h3 : gb < gc)
    (hl : Apart.Box w gl #[.slice (some ⟨ga, 0, none⟩) n ca, .slice (some ⟨gb, 0, none⟩) n cb, .slice (some ⟨gc, 0, none⟩) n cc, .slice (some ⟨gd, 0, none⟩) n cd] 26) :
    Calls Try.prog 10 #[.slice (some ⟨gl, 0, none⟩) 4 4] w fun e w' => e = .returned (.bool true) ∧ Apart.But 4 (of4 ga gb gc gd) w w' := by
  obtain ⟨ua, ba, sa, ma, pa⟩ := row_of ha n la
  obtain ⟨ub, bb, sb, mb, pb⟩ := row_of hb n lb
  obtain ⟨uc, bc, sc, mc, pc⟩ := row_of hc n lc
  obtain ⟨ud, bd, sd, md, pd⟩ := row_of hd n ld
  refine Apart.apart_at 4 gl 4 (of4 ga gb gc gd) (fun _ => n) (of4 ca cb cc cd) w (by omega) ⟨_, hl, fun i hi => ?_⟩ (fun i hi => ?_) (fun i hi => ?_) (fun i hi q hq hiq => ?_)
  · match i, hi with
    | 0, _ => rfl
    | 1, _ => rfl
    | 2, _ => rfl
    | 3, _ => rfl
  · match i, hi with
    | 0, _ => exact ⟨ua, ba, sa⟩
    | 1, _ => exact ⟨ub, bb, sb⟩
    | 2, _ => exact ⟨uc, bc, sc⟩
    | 3, _ => exact ⟨ud, bd, sd⟩
  · match i, hi with
    | 0, _ => exact ⟨pa, ma, hn⟩
    | 1, _ => exact ⟨pb, mb, hn⟩
    | 2, _ => exact ⟨pc, mc, hn⟩
    | 3, _ => exact ⟨pd, md, hn⟩
  · have e0 : of4 ga gb gc gd 0 = ga := rfl
    have e1 : of4 ga gb gc gd 1 = gb := rfl
    have e2 : of4 ga gb gc gd 2 = gc := rfl
    have e3 : of4 ga gb gc gd 3 = gd := rfl
    have hi' : i = 0 ∨ i = 1 ∨ i = 2 ∨ i = 3 := by omega
    have hq' : q = 0 ∨ q = 1 ∨ q = 2 ∨ q = 3 := by omega
    rcases hi' with rfl | rfl | rfl | rfl <;> rcases hq' with rfl | rfl | rfl | rfl <;> simp only [e0, e1, e2, e3] <;> omega
theorem but4 {w w' : World} {ga gb gc gd : Nat} (h : Apart.But 4 (of4 ga gb gc gd) w w') (k : Nat) (hk : k < w.heap.size) (h1 : k ≠ ga) (h2 : k ≠ gb) (h3 : k ≠ gc) (h4 : k ≠ gd) : w'.heap[k]? = w.heap[k]? :=
  h.block k hk fun q hq => by
    match q, hq with
    | 0, _ => exact h1
    | 1, _ => exact h2
    | 2, _ => exact h3
    | 3, _ => exact h4

set_option maxRecDepth 100000 in
set_option maxHeartbeats 4000000 in
theorem spares_at (z : Int) (w : World) : Calls Try.prog 3 #[.int .i64 z] w fun e w' => e = .returned (.bool true) ∧ Below w.heap.size w w' := by
  have cN := new_at 1 w (by omega) (by omega)
  obtain ⟨Z, hZ⟩ : ∃ Z, Z = nought (1 * 4096) := ⟨_, rfl⟩
  rw [← hZ] at cN
  have cM := fun u => made_at z 4096 u (by omega)
  rw [show ((4096 : Nat) : Int) = 4096 from rfl] at cM
  have hxl : (madeL z 4096).length = 4096 := madeK_length _ _ _
  obtain ⟨x, hx⟩ : ∃ x, x = madeL z 4096 := ⟨_, rfl⟩
  rw [← hx] at hxl
  simp only [← hx] at cM
  have Hxl : Hid _ := hxl
  have HM : Hid _ := cM
  clear hZ hx hxl cM
  go_enter Try.func3, Try.ntmps3
  go_wp2_with fail
  refine cN.mono ?_
  rintro e w1 ⟨g, rfl, F, d1, hF, B1⟩
  clear cN
  have D1 : Hid (IsDisk w1 g (DS.new 1 Z) F) := d1
  have HF : Hid _ := hF
  clear d1 hF
  go_wp2_with fail
  refine (HM.out _).mono ?_
  rintro e w2 ⟨rfl, o2, b2⟩
  obtain ⟨gd, hgd⟩ : ∃ gd, gd = w1.heap.size := ⟨_, rfl⟩
  rw [← hgd] at o2 ⊢
  have d2 : IsDisk w2 g (DS.new 1 Z) F := IsDisk.below D1.out b2
  have B2 := B1.trans (b2.mono B1.size)
  have ngd : ¬ F gd := fun h => by have := IsDisk.flt D1.out gd h; omega
  have gdl : gd < w2.heap.size := o2.lt
  have hgw : w.heap.size ≤ gd := by rw [hgd]; exact B1.size
  have cW := write_at d2 0 (some ⟨gd, 0, none⟩) 4096 4096 x Hxl.out ⟨by simp [DS.new], by simp [DS.new]⟩ o2.rd (fun ad h => by cases h; exact ngd)
  have qn : (DS.new 1 Z).quiet := DS.new_quiet _ _
  have eW := qn.writeE 0 x (by show 0 < 1; omega) Hxl.out
  have sW := qn.write 0 x (by show 0 < 1; omega) Hxl.out
  rw [show ((0 : Nat) : Int) = 0 from rfl] at eW sW
  rw [eW, sW] at cW
  have O2 : Hid (Own w2 gd x) := o2
  have HB2 : Hid _ := B2
  clear o2 b2 B1 hgd d2 eW sW qn D1 B2
  go_wp2_with fail
  refine cW.mono ?_
  rintro e w3 ⟨rfl, ⟨F3, d3, hF3⟩, u3⟩
  clear cW
  have o3 : Own w3 gd x := (u3.block gd gdl ngd).trans O2.out
  have B3 := HB2.out.trans (u3.below HF.out HB2.out.size)
  have ngd3 : ¬ F3 gd := fun h => by rcases hF3 gd h with h | h; exact ngd h; omega
  have hF3' : ∀ i, F3 i → w.heap.size ≤ i := fun i hi => by
    have := HB2.out.size
    rcases hF3 i hi with h | h
    · exact HF.out i h
    · omega
  obtain ⟨D, hD⟩ : ∃ D, D = ({ DS.new 1 Z with uf := (DS.new 1 Z).uf ++ [(0, x)], n := (DS.new 1 Z).n + 1 } : DS) := ⟨_, rfl⟩
  have s0 : D.stand 0 = x := by rw [hD]; rfl
  have nb0 : D.nb = 1 := by rw [hD]; rfl
  have go0 : D.gone = false := by rw [hD]; rfl
  have uf0 : D.uf.length ≤ 1000000 := by rw [hD]; simp [DS.new]
  rw [← hD] at d3
  have hil : D.image.length = 4096 := by
    have := carryTo_length D d3.ok D.dur rfl D.uf.length
    have e := d3.ok.len
    show (carryTo D.uf D.dur D.uf.length).length = _
    rw [nb0] at e
    omega
  have z23 : w2.heap.size ≤ w3.heap.size := u3.size
  clear hD u3 hF3 O2 HB2 HF ngd
  have cR := read_at d3 0 (by omega) go0 uf0
  rw [show ((0 : Nat) : Int) = 0 from rfl, s0] at cR
  have D3 : Hid (IsDisk w3 g D F3) := d3
  have O3 : Hid (Own w3 gd x) := o3
  have HB3 : Hid _ := B3
  have H1 : Hid (¬ F3 gd) := ngd3
  have H2 : Hid _ := hF3'
  have H3 : Hid (gd < w2.heap.size ∧ w2.heap.size ≤ w3.heap.size) := ⟨gdl, z23⟩
  have S0 : Hid _ := s0
  have N0 : Hid _ := nb0
  have G0 : Hid _ := go0
  have U0 : Hid _ := uf0
  have IL : Hid _ := hil
  clear d3 o3 B3 ngd3 hF3' gdl z23 s0 nb0 go0 uf0 hil
  go_wp2_with fail
  refine cR.mono ?_
  rintro e w4 ⟨g1, c1, rfl, h1, r1, b4⟩
  clear cR
  have d4 : IsDisk w4 g D F3 := IsDisk.below D3.out b4
  have o4 := O3.out.below b4 O3.out.lt
  have B4 := HB3.out.trans (b4.mono HB3.out.size)
  have L1 : Hid (w3.heap.size ≤ g1 ∧ g1 < w4.heap.size) := ⟨h1, r1.lt⟩
  have cR := read_at d4 0 (by rw [N0.out]; omega) G0.out U0.out
  rw [show ((0 : Nat) : Int) = 0 from rfl, S0.out] at cR
  clear h1 b4 HB3 O3
  go_wp2_with fail
  refine cR.mono ?_
  rintro e w5 ⟨g2, c2, rfl, h2, r2, b5⟩
  clear cR
  have d5 : IsDisk w5 g D F3 := IsDisk.below d4 b5
  have o5 := o4.below b5 o4.lt
  have r15 := r1.same (b5.block g1 r1.lt)
  have B5 := B4.trans (b5.mono B4.size)
  have L2 : Hid (w4.heap.size ≤ g2 ∧ g2 < w5.heap.size) := ⟨h2, r2.lt⟩
  have cI := image_at d5
  rw [N0.out, show 1 * 4096 = 4096 from rfl] at cI
  clear h2 b5 o4 B4 d4 r1
  go_wp2_with fail
  refine cI.mono ?_
  rintro e w6 ⟨g3, c3, rfl, h3, r3, b6⟩
  clear cI
  have d6 : IsDisk w6 g D F3 := IsDisk.below d5 b6
  have o6 := o5.below b6 o5.lt
  have r16 := r15.same (b6.block g1 r15.lt)
  have r26 := r2.same (b6.block g2 r2.lt)
  have B6 := B5.trans (b6.mono B5.size)
  have L3 : Hid (w5.heap.size ≤ g3 ∧ g3 < w6.heap.size) := ⟨h3, r3.lt⟩
  have cS := same_at c1 c2 4096 4096 _ _ x x w6 Hxl.out Hxl.out r16.rd r26.rd
  rw [beq_self_eq_true] at cS
  clear h3 b6 o5 B5 d5 r15 r2
  have K1 : Hid (RowB w6 g1 c1 x) := r16
  have K2 : Hid (RowB w6 g2 c2 x) := r26
  have K3 : Hid (RowB w6 g3 c3 D.image) := r3
  have K4 : Hid (Own w6 gd x) := o6
  have K5 : Hid (IsDisk w6 g D F3) := d6
  have K6 : Hid _ := B6
  clear r16 r26 r3 o6 d6 B6
  go_wp2_with fail
  refine cS.mono ?_
  rintro e w6' ⟨rfl, rfl⟩
  clear cS
  have A := (Below.refl w6.heap.size w6).alloc (Nat.le_refl _) (.cells #[.slice (some ⟨g1, 0, none⟩) 4096 c1, .slice (some ⟨g2, 0, none⟩) 4096 c2, .slice (some ⟨g3, 0, none⟩) 4096 c3, .slice (some ⟨gd, 0, none⟩) 4096 4096] 26)
  have xl := Apart.Box.new w6 #[.slice (some ⟨g1, 0, none⟩) 4096 c1, .slice (some ⟨g2, 0, none⟩) 4096 c2, .slice (some ⟨g3, 0, none⟩) 4096 c3, .slice (some ⟨gd, 0, none⟩) 4096 4096] 26
  obtain ⟨gl, hgl⟩ : ∃ gl, gl = w6.heap.size := ⟨_, rfl⟩
  obtain ⟨w7, hw7⟩ : ∃ w7, w7 = w6.alloc (.cells #[.slice (some ⟨g1, 0, none⟩) 4096 c1, .slice (some ⟨g2, 0, none⟩) 4096 c2, .slice (some ⟨g3, 0, none⟩) 4096 c3, .slice (some ⟨gd, 0, none⟩) 4096 4096] 26) := ⟨_, rfl⟩
  rw [← hw7] at A xl
  rw [← hgl] at xl
  have k1 := RowB.same K1.out (A.block g1 (RowB.lt K1.out))
  have k2 := RowB.same K2.out (A.block g2 (RowB.lt K2.out))
  have k3 := RowB.same K3.out (A.block g3 (RowB.lt K3.out))
  have k4 : RowB w7 gd 4096 x := by
    have := RowB.own (Own.below K4.out A (Own.lt K4.out)) (by rw [Hxl.out]; unfold maxLen; omega)
    rw [Hxl.out] at this
    exact this
  have k5 : IsDisk w7 g D F3 := IsDisk.below K5.out A
  have B7 := K6.out.trans (A.mono K6.out.size)
  have l1 := L1.out
  have l2 := L2.out
  have l3 := L3.out
  have l4 := H3.out
  have cA := apart4 gl k1 k2 k3 k4 Hxl.out Hxl.out IL.out Hxl.out (by omega) (by omega) (by omega) (by omega) xl
  have Hw7 : Hid _ := hw7
  have Hgl : Hid _ := hgl
  have M5 : Hid (IsDisk w7 g D F3) := k5
  have M6 : Hid _ := B7
  have M7 : Hid (w6.heap.size ≤ w7.heap.size) := A.size
  clear hw7 hgl k1 k2 k3 k4 k5 xl A l1 l2 l3 l4 K1 K2 K3 K4 K5 K6 B7
  go_wp2_with fail
  rw [← Hgl.out, ← Hw7.out]
  refine cA.mono ?_
  rintro e w8 ⟨rfl, bt⟩
  clear cA Hgl Hw7
  have d8 : IsDisk w8 g D F3 := IsDisk.kept M5.out (fun i hi => but4 bt i (IsDisk.flt M5.out i hi) (by have := IsDisk.flt D3.out i hi; have := L1.out; omega) (by have := IsDisk.flt D3.out i hi; have := L1.out; have := L2.out; omega) (by have := IsDisk.flt D3.out i hi; have := L1.out; have := L2.out; have := L3.out; omega) (fun e => H1.out (by rw [← e]; exact hi))) bt.size
  have B8 : Below w.heap.size w w8 := by
    have l1 := L1.out
    have l2 := L2.out
    have l3 := L3.out
    have l4 := H3.out
    have zz := M6.out.size
    exact ⟨bt.os.trans M6.out.os, bt.tape.trans M6.out.tape, bt.output.trans M6.out.output, Nat.le_trans zz bt.size, fun k hk => (but4 bt k (by omega) (by omega) (by omega) (by omega) (by omega)).trans (M6.out.block k hk)⟩
  have M8 : Hid (IsDisk w8 g D F3) := d8
  have HB8 : Hid _ := B8
  clear bt d8 B8 M5 M6 D3
  go_wp2_with fail
  refine (HM.out _).mono ?_
  rintro e w9 ⟨rfl, o9, b9⟩
  have d9 : IsDisk w9 g D F3 := IsDisk.below M8.out b9
  have B9 := HB8.out.trans (b9.mono HB8.out.size)
  have cH := lawHas_at d9 0 0 rfl (by rw [N0.out]; omega) G0.out U0.out (some ⟨w8.heap.size, 0, none⟩) 4096 4096 x Hxl.out o9.rd
  rw [S0.out, beq_self_eq_true] at cH
  clear d9 o9 b9
  go_wp2_with fail
  refine cH.mono ?_
  rintro e w10 ⟨rfl, b10⟩
  have B10 := B9.trans (b10.mono B9.size)
  clear cH b10 B9
  go_wp2_with fail
  refine (awake_any _).mono ?_
  rintro e w11 ⟨rfl, b11⟩
  have B11 := B10.trans (b11.mono B10.size)
  go_wp2
  go_ret
  exact ⟨rfl, B11⟩
end Go.Proofs.Ytagnmmapnpcijab
