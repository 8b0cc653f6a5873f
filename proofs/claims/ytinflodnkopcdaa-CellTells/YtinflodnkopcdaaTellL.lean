/-
  CellTells' walk.
-/
import Derived.Test.YtinflodnkopcdaaOwned
import Derived.Test.YtinflodnkopcdaaRef2
import Derived.Test.YtinflodnkopcdaaAwake
import Derived.Test.YtinflodnkopcdaaArgs
import Derived.Test.YtinflodnkopcdaaVerP
import Derived.Deep.CutBlock
import Derived.Deep.RegionHeld3
namespace Go.Proofs.Ytinflodnkopcdaa
open Go.RowKit
/-- a memory beside the document's own: the same -/
structure TS (u : World) (B m r n : Nat) (S : M) : Prop where
  is : IsM 54 63 u B m S
  ir : IsR u B r S
  gd : Gd S
  len : S.C.length = n
theorem TS.kt {u u' : World} {B m r n : Nat} {S : M} (h : TS u B m r n S) {p : TypeId → Prop} (hk : Kt p u u') (h1 : p 54) (h2 : p 63) (h3 : p 46) (h4 : p 40) : TS u' B m r n S := ⟨h.is.kt hk h1 h2, h.ir.kt hk h3 h4, h.gd, h.len⟩
theorem TS.below {u u' : World} {B m r n : Nat} {S : M} (h : TS u B m r n S) (hb : Below u.heap.size u u') : TS u' B m r n S := h.kt (p := fun _ => True) (Kt.below hb) trivial trivial trivial trivial
theorem TS.to {u u1 u2 : World} {B m r n : Nat} {S S' : M} (h : TS u B m r n S) (t1 : To 54 63 u B m S' u1) (t2 : RTo u1 B r S' u2) (hg : Gd S') (hl : S'.C.length = S.C.length) : TS u2 B m r n S' :=
  ⟨t1.is.kt t2.kt (by decide) (by decide), t2.is, hg, hl.trans h.len⟩
theorem TS.mid {u u1 : World} {B m r n : Nat} {S S' : M} (h : TS u B m r n S) (t1 : To 54 63 u B m S' u1) : IsR u1 B r S := h.ir.kt t1.kt (by decide) (by decide)
abbrev opC (x : Op5) : Array Value := #[.int .i64 x.kind, .int .i64 x.i, .int .i64 x.owner, .int .i64 x.v, .int .i64 x.ver]
/-- behind a round's calls -/
def TR (u w : World) (B m r n ob : Nat) (x : Op5) (v11 v12 : Value) : Prop := ∃ S' d, v11 = .int .i64 d ∧ v12 = .int .i64 d ∧ TS u B m r n S' ∧ Box u ob (opC x) 38 ∧ Below B w u
theorem eqlNil (w : World) : (binOp .eql 22 (.pointer none) (.pointer none)).run Try.prog w = .ok (.bool true) w := by
  have h : ∀ d : Nat, (Op.equalIn (d + 1) 22 (.pointer none) (.pointer none)).run Try.prog w = .ok true w := fun d => by
    simp [Op.equalIn, run_underlying poin54]
  simp only [binOp]
  simp [Op.equal, Op.maxDepth, h]
set_option maxRecDepth 100000 in
theorem tells_no (z : Int) (a0 : Option Addr) (n0 c0 : Nat) (w : World) (hz : z < 1 ∨ 1024 < z) : Calls Try.prog 4 #[.int .i64 z, .slice a0 n0 c0] w fun r w' => r = .returned (.bool true) ∧ Below w.heap.size w w' := by
  have cN := new_no w z hz
  have cR := rnew_no w z hz
  have cA := awake_at w
  have he := eqlNil
  clear hz
  go_enter Try.func4, Try.ntmps4
  go_wp2_with fail
  refine Calls.mono cN ?_
  rintro e wx ⟨rfl, hwx⟩
  subst wx
  go_wp2_with fail
  refine Calls.mono cR ?_
  rintro e wx ⟨rfl, hwx⟩
  subst wx
  go_wp2_with fail
  refine Calls.mono cA ?_
  rintro e wx ⟨rfl, bx⟩
  have HB : Hid (Below w.heap.size w wx) := bx
  clear bx cA cN cR
  go_wp2_with fail
  go_ret
  exact ⟨rfl, HB.out⟩
set_option maxRecDepth 100000 in
set_option maxHeartbeats 8000000 in
theorem tells_in (n : Nat) (hn1 : 1 ≤ n) (hn2 : n ≤ 1024) (a0 : Option Addr) (n0 c0 : Nat) (os : List Op5) (w : World) (hl : os.length = n0) (hr : RdOps w a0 os) (hn : n0 ≤ 9223372036854775807) :
    Calls Try.prog 4 #[.int .i64 (n : Int), .slice a0 n0 c0] w fun r w' => r = .returned (.bool true) ∧ Below w.heap.size w w' := by
  obtain ⟨B, hB⟩ : ∃ B, B = w.heap.size := ⟨_, rfl⟩
  have cN := new_at w n hn1 hn2
  have HB : Hid (B = w.heap.size) := hB
  have HR : Hid (∀ (u : World), Below B w u → ∀ k, k < n0 → ∃ b o, ∃ x : Op5, a0 = some ⟨b, o, none⟩ ∧ u.cell? ⟨b, o + k * 5, none⟩ = some (.int .i64 x.kind) ∧ u.cell? ⟨b, o + k * 5 + 1, none⟩ = some (.int .i64 x.i) ∧ u.cell? ⟨b, o + k * 5 + 2, none⟩ = some (.int .i64 x.owner) ∧ u.cell? ⟨b, o + k * 5 + 3, none⟩ = some (.int .i64 x.v) ∧ u.cell? ⟨b, o + k * 5 + 4, none⟩ = some (.int .i64 x.ver)) := fun u hu k hk => by
    rw [hB] at hu
    obtain ⟨b, o, x, h1, _, h2⟩ := hr.at u hu k (by omega)
    exact ⟨b, o, x, h1, h2⟩
  rw [← hB] at cN
  clear hr hl hB
  have hn' : (n0 : Int) ≤ 9223372036854775807 := by omega
  have HN : Hid (1 ≤ n ∧ n ≤ 1024) := ⟨hn1, hn2⟩
  go_enter Try.func4, Try.ntmps4
  go_wp2_with fail
  refine Calls.mono cN ?_
  rintro e w1 ⟨m, rfl, i1, b1⟩
  have cR := rnew_at w1 n hn1 hn2
  have HI1 : Hid (IsM 54 63 w1 B m (M0 n)) := i1
  have HB1 : Hid (Below B w w1) := b1
  clear cN b1 i1
  unfold ptr at *
  go_wp2_with fail
  refine Calls.mono cR ?_
  rintro e w2 ⟨r, rfl, i2, b2⟩
  have HV : Hid (TS w2 B m r n (M0 n)) := ⟨HI1.out.below b2, by obtain ⟨g, hg, hb, hr⟩ := i2.row; exact ⟨Nat.le_trans HI1.out.hB i2.hm, i2.rt, g, Nat.le_trans HI1.out.hB hg, hb, hr⟩, ⟨fun c hc => by simp [M0] at hc; rw [hc.2]; exact ⟨0, rfl⟩, fun c hc => by simp [M0] at hc; rw [hc.2]; exact ⟨Int.le_refl _, Int.le_refl _⟩⟩, by simp [M0]⟩
  have HB2 : Hid (Below B w w2) := HB1.out.trans (b2.mono HI1.out.hB)
  clear cR b2 i2 HI1 HB1 hn1
  unfold ptr at *
  go_wp2_with fail
  go_loopw [9] (fun i u => ∃ k : Nat, k ≤ 300 ∧ k ≤ n0 ∧ i = .int .i64 (k : Int) ∧ (∃ S, TS u B m r n S) ∧ Below B w u) (fun i _ => 300 - (intOf i).toNat)
  case atStart => exact ⟨0, by omega, by omega, rfl, ⟨_, HV.out⟩, HB2.out⟩
  case round =>
    obtain ⟨k, hk200, hkn, rfl, ⟨S, hV⟩, hb⟩ := hrel
    obtain ⟨wa, hwa⟩ : ∃ wa, wa = wr := ⟨_, rfl⟩
    subst hwa
    have HVa : Hid (TS wa B m r n S) := hV
    have HBa : Hid (Below B w wa) := hb
    clear HV HB2
    by_cases hgo : k < n0 ∧ k < 300
    · obtain ⟨hg1, hg2⟩ := hgo
      have hi1 : (k : Int) < (n0 : Int) := by omega
      have hi2 : (k : Int) < 300 := by omega
      obtain ⟨b, o, x, rfl, x0, x1, x2, x3, x4⟩ := HR.out wa hb k hg1
      have bx := Box.new wa #[.int .i64 x.kind, .int .i64 x.i, .int .i64 x.owner, .int .i64 x.v, .int .i64 x.ver] 38
      have hbl := (Below.refl wa.heap.size wa).alloc (Nat.le_refl _) (.cells #[.int .i64 x.kind, .int .i64 x.i, .int .i64 x.owner, .int .i64 x.v, .int .i64 x.ver] 38)
      have hV2 := hV.below hbl
      obtain ⟨ob, hob⟩ : ∃ ob, ob = wa.heap.size := ⟨_, rfl⟩
      rw [← hob] at bx
      have Hob : Hid (ob = wa.heap.size) := hob
      obtain ⟨wb, hwb⟩ : ∃ wb, wb = wa.alloc (.cells #[.int .i64 x.kind, .int .i64 x.i, .int .i64 x.owner, .int .i64 x.v, .int .i64 x.ver] 38) := ⟨_, rfl⟩
      have Hwb : Hid (wb = wa.alloc (.cells #[.int .i64 x.kind, .int .i64 x.i, .int .i64 x.owner, .int .i64 x.v, .int .i64 x.ver] 38)) := hwb
      rw [← hwb] at hbl hV2 bx
      have HBb : Hid (Below B w wb) := hb.trans (hbl.mono hV.is.hB)
      have HVb : Hid (TS wb B m r n S) := hV2
      have d0 := bx.cell 0
      have d1 := bx.cell 1
      have d2 := bx.cell 2
      have d3 := bx.cell 3
      have d4 := bx.cell 4
      have HX : Hid (Box wb ob #[.int .i64 x.kind, .int .i64 x.i, .int .i64 x.owner, .int .i64 x.v, .int .i64 x.ver] 38) := bx
      simp only [List.getElem?_toArray, List.getElem?_cons_zero, List.getElem?_cons_succ] at d0 d1 d2 d3 d4
      clear hV hV2 hbl bx hb hob hwb HVa HBa
      obtain ⟨xk, xi, xo, xv, xn⟩ := x
      simp only at x0 x1 x2 x3 x4 d0 d1 d2 d3 d4 HX Hwb
      go_upto_region 12 with fail
      rw [← Hwb.out, ← Hob.out]
      clear x0 x1 x2 x3 x4 Hwb Hob
      go_upto_block 2 with fail
      go_cut [11, 12] from 65 to 183 (fun v11 v12 u => TR u w B m r n ob ⟨xk, xi, xo, xv, xn⟩ v11 v12)
      case first =>
        by_cases k0 : xk = 0
        · as_aux_lemma =>
          subst k0
          have C1 := adv_at HVb.out.is
          have C2 : Hid (∀ u, IsR u B r S → Calls Try.prog 15 #[.pointer (some ⟨r, 0, none⟩)] u fun q w' => q = .returned (.tuple #[.int .i64 S.adv.2.1, .int .i64 S.adv.2.2]) ∧ RTo u B r S.adv.1 w') := fun u hu => radv_at hu
          have HG : Hid (Gd S.adv.1 ∧ S.adv.1.C.length = S.C.length) := ⟨Gd.adv HVb.out.gd, M.adv_len S⟩
          obtain ⟨Sn, hSn⟩ : ∃ Sn, Sn = S.adv.1 := ⟨_, rfl⟩
          obtain ⟨dn, hdn⟩ : ∃ dn, dn = S.adv.2.2 := ⟨_, rfl⟩
          obtain ⟨en, hen⟩ : ∃ en, en = S.adv.2.1 := ⟨_, rfl⟩
          rw [← hSn] at HG
          rw [← hSn, ← hdn, ← hen] at C1 C2
          clear hSn hdn hen
          unfold ptr at C1
          go_wp2_with fail
          refine Calls.mono C1 ?_
          rintro e v1 ⟨rfl, t1⟩
          have C3 := C2.out v1 (HVb.out.mid t1)
          have HT1 : Hid (To 54 63 wb B m Sn v1) := t1
          clear C1 C2 t1
          go_wp2_with fail
          refine Calls.mono C3 ?_
          rintro e v2 ⟨rfl, t2⟩
          have HF : Hid (TR v2 w B m r n ob ⟨0, xi, xo, xv, xn⟩ (.int .i64 dn) (.int .i64 dn)) := ⟨Sn, dn, rfl, rfl, HVb.out.to HT1.out t2 HG.out.1 HG.out.2, t2.kt _ _ _ (HT1.out.kt _ _ _ HX.out (by decide)) (by decide), (HBb.out.trans HT1.out.bel).trans t2.bel⟩
          clear C3 t2
          go_wp2_with fail
          go_meet
          case rel => exact HF.out
        by_cases k1 : xk = 1
        · as_aux_lemma =>
          subst k1
          have C1 := load_at HVb.out.is xi
          have C2 : Hid (∀ u, IsR u B r S → Calls Try.prog 16 #[.pointer (some ⟨r, 0, none⟩), .int .i64 xi] u fun q w' => q = .returned (.tuple #[.agg #[(M.load S xi).1, .int .i64 (M.load S xi).2.1, .int .i64 (M.load S xi).2.2.1], .int .i64 (M.load S xi).2.2.2]) ∧ Below u.heap.size u w') := fun u hu => rload_at hu xi (HVb.out.gd.hv xi)
          obtain ⟨y, hy⟩ : ∃ y : Int, (M.load S xi).1 = .int .i64 y := by
            cases hc : S.cell? xi with
            | none => exact ⟨0, by simp [M.load, hc]⟩
            | some q => obtain ⟨y, hy⟩ := HVb.out.gd.hv xi q hc; exact ⟨y, by simp [M.load, hc, hy]⟩
          rw [hy] at C1 C2
          generalize (M.load S xi).2.1 = y1 at C1 C2
          generalize (M.load S xi).2.2.1 = y2 at C1 C2
          generalize (M.load S xi).2.2.2 = dn at C1 C2
          clear hy
          unfold ptr at C1
          go_wp2_with fail
          refine Calls.mono C1 ?_
          rintro e v1 ⟨rfl, nq, rfl⟩
          have HT1 : Hid (TS (wb.drewN nq) B m r n S) := HVb.out.below (Below.drewN (Below.refl _ _) nq)
          have HX1 : Hid (Box (wb.drewN nq) ob #[.int .i64 1, .int .i64 xi, .int .i64 xo, .int .i64 xv, .int .i64 xn] 38) := HX.out
          have HB1 : Hid (Below B w (wb.drewN nq)) := Below.drewN HBb.out nq
          obtain ⟨v1, hv1⟩ : ∃ v1, v1 = wb.drewN nq := ⟨_, rfl⟩
          rw [← hv1] at HT1 HX1 HB1 ⊢
          have C3 := C2.out v1 HT1.out.ir
          have z1 : v1.cell? ⟨ob, 1, none⟩ = some (.int .i64 xi) := HX1.out.cell 1
          clear C1 C2 hv1 d0 d1 d2 d3 d4
          go_wp2_with fail
          refine Calls.mono C3 ?_
          rintro e v2 ⟨rfl, b2⟩
          have HT2 : Hid (TS v2 B m r n S) := HT1.out.below b2
          have HX2 : Hid (Box v2 ob #[.int .i64 1, .int .i64 xi, .int .i64 xo, .int .i64 xv, .int .i64 xn] 38) := HX1.out.below b2 HX1.out.lt
          have HB2 : Hid (Below B w v2) := HB1.out.trans (b2.mono HT1.out.is.hB)
          have bc := Box.new v2 #[.int .i64 y, .int .i64 y1, .int .i64 y2] 40
          have bz := (Below.refl v2.heap.size v2).alloc (Nat.le_refl _) (.cells #[.int .i64 y, .int .i64 y1, .int .i64 y2] 40)
          have HF : Hid (TR (v2.alloc (.cells #[.int .i64 y, .int .i64 y1, .int .i64 y2] 40)) w B m r n ob ⟨1, xi, xo, xv, xn⟩ (.int .i64 dn) (.int .i64 dn)) := ⟨S, dn, rfl, rfl, HT2.out.below bz, HX2.out.below bz HX2.out.lt, HB2.out.trans (bz.mono HT2.out.is.hB)⟩
          have g0 := bc.cell 0
          have g1 := bc.cell 1
          have g2 := bc.cell 2
          simp only [List.getElem?_toArray, List.getElem?_cons_zero, List.getElem?_cons_succ] at g0 g1 g2
          clear C3 b2 bc bz
          go_wp2_with fail
          go_meet
          case rel => exact HF.out
        by_cases k2 : xk = 2
        · as_aux_lemma =>
          subst k2
          have hX0 : Box wb.drew ob #[.int .i64 2, .int .i64 xi, .int .i64 xo, .int .i64 xv, .int .i64 xn] 38 := HX.out
          have hT0 : TS wb.drew B m r n S := HVb.out.below (Below.refl wb.heap.size wb).drew
          have hB0 : Below B w wb.drew := HBb.out.drew
          have HX0 : Hid (Box wb.drew ob #[.int .i64 2, .int .i64 xi, .int .i64 xo, .int .i64 xv, .int .i64 xn] 38) := hX0
          have HT0 : Hid (TS wb.drew B m r n S) := hT0
          have HB0 : Hid (Below B w wb.drew) := hB0
          have hvv := hT0.gd.hv xi
          have C1 : Hid (Calls Try.prog 17 #[.pointer (some ⟨m, 0, none⟩), .int .i64 xi, .int .i64 xv] wb.drew fun q w' => q = .returned (.int .i64 (S.fill xi (.int .i64 xv)).2) ∧ To 54 63 wb.drew B m (S.fill xi (.int .i64 xv)).1 w') := fill_at hT0.is xi xv hvv
          have C2 : Hid (∀ u, IsR u B r S → Calls Try.prog 18 #[.pointer (some ⟨r, 0, none⟩), .int .i64 xi, .int .i64 xv] u fun q w' => q = .returned (.int .i64 (S.fill xi (.int .i64 xv)).2) ∧ RTo u B r (S.fill xi (.int .i64 xv)).1 w') := fun u hu => rfill_at hu xi xv hvv
          have HG : Hid (Gd (S.fill xi (.int .i64 xv)).1 ∧ (S.fill xi (.int .i64 xv)).1.C.length = S.C.length) := ⟨Gd.fill HVb.out.gd xi xv, M.fill_len S _ _⟩
          obtain ⟨Sn, hSn⟩ : ∃ Sn, Sn = (S.fill xi (.int .i64 xv)).1 := ⟨_, rfl⟩
          obtain ⟨dn, hdn⟩ : ∃ dn, dn = (S.fill xi (.int .i64 xv)).2 := ⟨_, rfl⟩
          rw [← hSn] at HG
          rw [← hSn, ← hdn] at C1 C2
          clear hSn hdn hvv hX0 hT0 hB0
          go_upto_region 26 with fail
          have q01 : wb.drew.cell? ⟨ob, 1, none⟩ = some (.int .i64 xi) := HX0.out.cell 1; have q03 : wb.drew.cell? ⟨ob, 3, none⟩ = some (.int .i64 xv) := HX0.out.cell 3
          have qq1 : wb.cell? ⟨ob, 1, none⟩ = some (.int .i64 xi) := HX.out.cell 1; have qq3 : wb.cell? ⟨ob, 3, none⟩ = some (.int .i64 xv) := HX.out.cell 3
          go_region_held3 (fun u => u.cell? ⟨ob, 1, none⟩ = some (.int .i64 xi) ∧ u.cell? ⟨ob, 3, none⟩ = some (.int .i64 xv))
            (first | with_reducible exact ⟨q21, q23⟩ | with_reducible exact ⟨q11, q13⟩ | with_reducible exact ⟨q01, q03⟩ | with_reducible exact ⟨qq1, qq3⟩)
            (first
              | (go_at_call 17; refine Calls.mono C1.out ?_; rintro e v1 ⟨rfl, t1⟩; have h1 := t1.kt _ _ _ HX0.out (by decide); have q11 : v1.cell? ⟨ob, 1, none⟩ = some (.int .i64 xi) := h1.cell 1; have q13 : v1.cell? ⟨ob, 3, none⟩ = some (.int .i64 xv) := h1.cell 3)
              | (go_at_call 18; refine Calls.mono (C2.out _ (HT0.out.mid t1)) ?_; rintro e v2 ⟨rfl, t2⟩; have h2 := t2.kt _ _ _ h1 (by decide); have q21 : v2.cell? ⟨ob, 1, none⟩ = some (.int .i64 xi) := h2.cell 1; have q23 : v2.cell? ⟨ob, 3, none⟩ = some (.int .i64 xv) := h2.cell 3))
          have HF : Hid (TR v2 w B m r n ob ⟨2, xi, xo, xv, xn⟩ (.int .i64 dn) (.int .i64 dn)) := ⟨Sn, dn, rfl, rfl, HT0.out.to t1 t2 HG.out.1 HG.out.2, h2, (HB0.out.trans t1.bel).trans t2.bel⟩
          clear t1 t2 h1 h2 C1 C2
          go_wp2_with fail
          go_meet
          case rel => exact HF.out
        by_cases k3 : xk = 3
        · as_aux_lemma =>
          subst k3
          have hX0 : Box wb.drew ob #[.int .i64 3, .int .i64 xi, .int .i64 xo, .int .i64 xv, .int .i64 xn] 38 := HX.out
          have hT0 : TS wb.drew B m r n S := HVb.out.below (Below.refl wb.heap.size wb).drew
          have hB0 : Below B w wb.drew := HBb.out.drew
          have HX0 : Hid (Box wb.drew ob #[.int .i64 3, .int .i64 xi, .int .i64 xo, .int .i64 xv, .int .i64 xn] 38) := hX0
          have HT0 : Hid (TS wb.drew B m r n S) := hT0
          have HB0 : Hid (Below B w wb.drew) := hB0
          have hvv := hT0.gd.hv xi
          have C1 : Hid (Calls Try.prog 10 #[.pointer (some ⟨m, 0, none⟩), .int .i64 xi, .int .i64 xo] wb.drew fun q w' => q = .returned (.int .i64 (S.lock xi xo).2) ∧ To 54 63 wb.drew B m (S.lock xi xo).1 w') := lock_at hT0.is xi xo
          have C2 : Hid (∀ u, IsR u B r S → Calls Try.prog 19 #[.pointer (some ⟨r, 0, none⟩), .int .i64 xi, .int .i64 xo] u fun q w' => q = .returned (.int .i64 (S.lock xi xo).2) ∧ RTo u B r (S.lock xi xo).1 w') := fun u hu => rlock_at hu xi xo
          have HG : Hid (Gd (S.lock xi xo).1 ∧ (S.lock xi xo).1.C.length = S.C.length) := ⟨Gd.lock HVb.out.gd xi xo, M.lock_len S _ _⟩
          obtain ⟨Sn, hSn⟩ : ∃ Sn, Sn = (S.lock xi xo).1 := ⟨_, rfl⟩
          obtain ⟨dn, hdn⟩ : ∃ dn, dn = (S.lock xi xo).2 := ⟨_, rfl⟩
          rw [← hSn] at HG
          rw [← hSn, ← hdn] at C1 C2
          clear hSn hdn hvv hX0 hT0 hB0
          go_upto_region 29 with fail
          have q01 : wb.drew.cell? ⟨ob, 1, none⟩ = some (.int .i64 xi) := HX0.out.cell 1; have q02 : wb.drew.cell? ⟨ob, 2, none⟩ = some (.int .i64 xo) := HX0.out.cell 2
          have qq1 : wb.cell? ⟨ob, 1, none⟩ = some (.int .i64 xi) := HX.out.cell 1; have qq2 : wb.cell? ⟨ob, 2, none⟩ = some (.int .i64 xo) := HX.out.cell 2
          go_region_held3 (fun u => u.cell? ⟨ob, 1, none⟩ = some (.int .i64 xi) ∧ u.cell? ⟨ob, 2, none⟩ = some (.int .i64 xo))
            (first | with_reducible exact ⟨q21, q22⟩ | with_reducible exact ⟨q11, q12⟩ | with_reducible exact ⟨q01, q02⟩ | with_reducible exact ⟨qq1, qq2⟩)
            (first
              | (go_at_call 10; refine Calls.mono C1.out ?_; rintro e v1 ⟨rfl, t1⟩; have h1 := t1.kt _ _ _ HX0.out (by decide); have q11 : v1.cell? ⟨ob, 1, none⟩ = some (.int .i64 xi) := h1.cell 1; have q12 : v1.cell? ⟨ob, 2, none⟩ = some (.int .i64 xo) := h1.cell 2)
              | (go_at_call 19; refine Calls.mono (C2.out _ (HT0.out.mid t1)) ?_; rintro e v2 ⟨rfl, t2⟩; have h2 := t2.kt _ _ _ h1 (by decide); have q21 : v2.cell? ⟨ob, 1, none⟩ = some (.int .i64 xi) := h2.cell 1; have q22 : v2.cell? ⟨ob, 2, none⟩ = some (.int .i64 xo) := h2.cell 2))
          have HF : Hid (TR v2 w B m r n ob ⟨3, xi, xo, xv, xn⟩ (.int .i64 dn) (.int .i64 dn)) := ⟨Sn, dn, rfl, rfl, HT0.out.to t1 t2 HG.out.1 HG.out.2, h2, (HB0.out.trans t1.bel).trans t2.bel⟩
          clear t1 t2 h1 h2 C1 C2
          go_wp2_with fail
          go_meet
          case rel => exact HF.out
        by_cases k4 : xk = 4
        · as_aux_lemma =>
          subst k4
          have hX0 : Box wb.drew ob #[.int .i64 4, .int .i64 xi, .int .i64 xo, .int .i64 xv, .int .i64 xn] 38 := HX.out
          have hT0 : TS wb.drew B m r n S := HVb.out.below (Below.refl wb.heap.size wb).drew
          have hB0 : Below B w wb.drew := HBb.out.drew
          have HX0 : Hid (Box wb.drew ob #[.int .i64 4, .int .i64 xi, .int .i64 xo, .int .i64 xv, .int .i64 xn] 38) := hX0
          have HT0 : Hid (TS wb.drew B m r n S) := hT0
          have HB0 : Hid (Below B w wb.drew) := hB0
          have hvv := hT0.gd.hv xi
          have C1 : Hid (Calls Try.prog 10 #[.pointer (some ⟨m, 0, none⟩), .int .i64 xi, .int .i64 xo] wb.drew fun q w' => q = .returned (.int .i64 (S.lock xi xo).2) ∧ To 54 63 wb.drew B m (S.lock xi xo).1 w') := lock_at hT0.is xi xo
          have C2 : Hid (∀ u, IsR u B r S → Calls Try.prog 19 #[.pointer (some ⟨r, 0, none⟩), .int .i64 xi, .int .i64 xo] u fun q w' => q = .returned (.int .i64 (S.lock xi xo).2) ∧ RTo u B r (S.lock xi xo).1 w') := fun u hu => rlock_at hu xi xo
          have HG : Hid (Gd (S.lock xi xo).1 ∧ (S.lock xi xo).1.C.length = S.C.length) := ⟨Gd.lock HVb.out.gd xi xo, M.lock_len S _ _⟩
          obtain ⟨Sn, hSn⟩ : ∃ Sn, Sn = (S.lock xi xo).1 := ⟨_, rfl⟩
          obtain ⟨dn, hdn⟩ : ∃ dn, dn = (S.lock xi xo).2 := ⟨_, rfl⟩
          rw [← hSn] at HG
          rw [← hSn, ← hdn] at C1 C2
          clear hSn hdn hvv hX0 hT0 hB0
          go_upto_region 29 with fail
          have q01 : wb.drew.cell? ⟨ob, 1, none⟩ = some (.int .i64 xi) := HX0.out.cell 1; have q02 : wb.drew.cell? ⟨ob, 2, none⟩ = some (.int .i64 xo) := HX0.out.cell 2
          have qq1 : wb.cell? ⟨ob, 1, none⟩ = some (.int .i64 xi) := HX.out.cell 1; have qq2 : wb.cell? ⟨ob, 2, none⟩ = some (.int .i64 xo) := HX.out.cell 2
          go_region_held3 (fun u => u.cell? ⟨ob, 1, none⟩ = some (.int .i64 xi) ∧ u.cell? ⟨ob, 2, none⟩ = some (.int .i64 xo))
            (first | with_reducible exact ⟨q21, q22⟩ | with_reducible exact ⟨q11, q12⟩ | with_reducible exact ⟨q01, q02⟩ | with_reducible exact ⟨qq1, qq2⟩)
            (first
              | (go_at_call 10; refine Calls.mono C1.out ?_; rintro e v1 ⟨rfl, t1⟩; have h1 := t1.kt _ _ _ HX0.out (by decide); have q11 : v1.cell? ⟨ob, 1, none⟩ = some (.int .i64 xi) := h1.cell 1; have q12 : v1.cell? ⟨ob, 2, none⟩ = some (.int .i64 xo) := h1.cell 2)
              | (go_at_call 19; refine Calls.mono (C2.out _ (HT0.out.mid t1)) ?_; rintro e v2 ⟨rfl, t2⟩; have h2 := t2.kt _ _ _ h1 (by decide); have q21 : v2.cell? ⟨ob, 1, none⟩ = some (.int .i64 xi) := h2.cell 1; have q22 : v2.cell? ⟨ob, 2, none⟩ = some (.int .i64 xo) := h2.cell 2))
          have HF : Hid (TR v2 w B m r n ob ⟨4, xi, xo, xv, xn⟩ (.int .i64 dn) (.int .i64 dn)) := ⟨Sn, dn, rfl, rfl, HT0.out.to t1 t2 HG.out.1 HG.out.2, h2, (HB0.out.trans t1.bel).trans t2.bel⟩
          clear t1 t2 h1 h2 C1 C2
          go_wp2_with fail
          go_meet
          case rel => exact HF.out
        by_cases k5 : xk = 5
        · as_aux_lemma =>
          subst k5
          have hX0 : Box wb.drew ob #[.int .i64 5, .int .i64 xi, .int .i64 xo, .int .i64 xv, .int .i64 xn] 38 := HX.out
          have hT0 : TS wb.drew B m r n S := HVb.out.below (Below.refl wb.heap.size wb).drew
          have hB0 : Below B w wb.drew := HBb.out.drew
          have HX0 : Hid (Box wb.drew ob #[.int .i64 5, .int .i64 xi, .int .i64 xo, .int .i64 xv, .int .i64 xn] 38) := hX0
          have HT0 : Hid (TS wb.drew B m r n S) := hT0
          have HB0 : Hid (Below B w wb.drew) := hB0
          have hvv := hT0.gd.hv xi
          have C1 : Hid (Calls Try.prog 20 #[.pointer (some ⟨m, 0, none⟩), .int .i64 xi, .int .i64 xo] wb.drew fun q w' => q = .returned (.int .i64 (S.unlock xi xo).2) ∧ To 54 63 wb.drew B m (S.unlock xi xo).1 w') := unlock_at hT0.is xi xo
          have C2 : Hid (∀ u, IsR u B r S → Calls Try.prog 21 #[.pointer (some ⟨r, 0, none⟩), .int .i64 xi, .int .i64 xo] u fun q w' => q = .returned (.int .i64 (S.unlock xi xo).2) ∧ RTo u B r (S.unlock xi xo).1 w') := fun u hu => runlock_at hu xi xo
          have HG : Hid (Gd (S.unlock xi xo).1 ∧ (S.unlock xi xo).1.C.length = S.C.length) := ⟨Gd.unlock HVb.out.gd xi xo, M.unlock_len S _ _⟩
          obtain ⟨Sn, hSn⟩ : ∃ Sn, Sn = (S.unlock xi xo).1 := ⟨_, rfl⟩
          obtain ⟨dn, hdn⟩ : ∃ dn, dn = (S.unlock xi xo).2 := ⟨_, rfl⟩
          rw [← hSn] at HG
          rw [← hSn, ← hdn] at C1 C2
          clear hSn hdn hvv hX0 hT0 hB0
          go_upto_region 31 with fail
          have q01 : wb.drew.cell? ⟨ob, 1, none⟩ = some (.int .i64 xi) := HX0.out.cell 1; have q02 : wb.drew.cell? ⟨ob, 2, none⟩ = some (.int .i64 xo) := HX0.out.cell 2
          have qq1 : wb.cell? ⟨ob, 1, none⟩ = some (.int .i64 xi) := HX.out.cell 1; have qq2 : wb.cell? ⟨ob, 2, none⟩ = some (.int .i64 xo) := HX.out.cell 2
          go_region_held3 (fun u => u.cell? ⟨ob, 1, none⟩ = some (.int .i64 xi) ∧ u.cell? ⟨ob, 2, none⟩ = some (.int .i64 xo))
            (first | with_reducible exact ⟨q21, q22⟩ | with_reducible exact ⟨q11, q12⟩ | with_reducible exact ⟨q01, q02⟩ | with_reducible exact ⟨qq1, qq2⟩)
            (first
              | (go_at_call 20; refine Calls.mono C1.out ?_; rintro e v1 ⟨rfl, t1⟩; have h1 := t1.kt _ _ _ HX0.out (by decide); have q11 : v1.cell? ⟨ob, 1, none⟩ = some (.int .i64 xi) := h1.cell 1; have q12 : v1.cell? ⟨ob, 2, none⟩ = some (.int .i64 xo) := h1.cell 2)
              | (go_at_call 21; refine Calls.mono (C2.out _ (HT0.out.mid t1)) ?_; rintro e v2 ⟨rfl, t2⟩; have h2 := t2.kt _ _ _ h1 (by decide); have q21 : v2.cell? ⟨ob, 1, none⟩ = some (.int .i64 xi) := h2.cell 1; have q22 : v2.cell? ⟨ob, 2, none⟩ = some (.int .i64 xo) := h2.cell 2))
          have HF : Hid (TR v2 w B m r n ob ⟨5, xi, xo, xv, xn⟩ (.int .i64 dn) (.int .i64 dn)) := ⟨Sn, dn, rfl, rfl, HT0.out.to t1 t2 HG.out.1 HG.out.2, h2, (HB0.out.trans t1.bel).trans t2.bel⟩
          clear t1 t2 h1 h2 C1 C2
          go_wp2_with fail
          go_meet
          case rel => exact HF.out
        by_cases k6 : xk = 6
        · as_aux_lemma =>
          subst k6
          have hX0 : Box wb.drew ob #[.int .i64 6, .int .i64 xi, .int .i64 xo, .int .i64 xv, .int .i64 xn] 38 := HX.out
          have hT0 : TS wb.drew B m r n S := HVb.out.below (Below.refl wb.heap.size wb).drew
          have hB0 : Below B w wb.drew := HBb.out.drew
          have HX0 : Hid (Box wb.drew ob #[.int .i64 6, .int .i64 xi, .int .i64 xo, .int .i64 xv, .int .i64 xn] 38) := hX0
          have HT0 : Hid (TS wb.drew B m r n S) := hT0
          have HB0 : Hid (Below B w wb.drew) := hB0
          have hvv := hT0.gd.hv xi
          have C1 : Hid (Calls Try.prog 11 #[.pointer (some ⟨m, 0, none⟩), .int .i64 xi, .int .i64 xo, .int .i64 xv, .int .i64 xn] wb.drew fun q w' => q = .returned (.int .i64 (S.publish xi xo (.int .i64 xv) xn).2) ∧ To 54 63 wb.drew B m (S.publish xi xo (.int .i64 xv) xn).1 w') := publish_at hT0.is xi xo xv xn hvv
          have C2 : Hid (∀ u, IsR u B r S → Calls Try.prog 22 #[.pointer (some ⟨r, 0, none⟩), .int .i64 xi, .int .i64 xo, .int .i64 xv, .int .i64 xn] u fun q w' => q = .returned (.int .i64 (S.publish xi xo (.int .i64 xv) xn).2) ∧ RTo u B r (S.publish xi xo (.int .i64 xv) xn).1 w') := fun u hu => rpublish_at hu xi xo xv xn hvv
          have HG : Hid (Gd (S.publish xi xo (.int .i64 xv) xn).1 ∧ (S.publish xi xo (.int .i64 xv) xn).1.C.length = S.C.length) := ⟨Gd.publish HVb.out.gd xi xo xv xn, M.publish_len S _ _ _ _⟩
          obtain ⟨Sn, hSn⟩ : ∃ Sn, Sn = (S.publish xi xo (.int .i64 xv) xn).1 := ⟨_, rfl⟩
          obtain ⟨dn, hdn⟩ : ∃ dn, dn = (S.publish xi xo (.int .i64 xv) xn).2 := ⟨_, rfl⟩
          rw [← hSn] at HG
          rw [← hSn, ← hdn] at C1 C2
          clear hSn hdn hvv hX0 hT0 hB0
          go_upto_region 34 with fail
          have q01 : wb.drew.cell? ⟨ob, 1, none⟩ = some (.int .i64 xi) := HX0.out.cell 1; have q02 : wb.drew.cell? ⟨ob, 2, none⟩ = some (.int .i64 xo) := HX0.out.cell 2; have q03 : wb.drew.cell? ⟨ob, 3, none⟩ = some (.int .i64 xv) := HX0.out.cell 3; have q04 : wb.drew.cell? ⟨ob, 4, none⟩ = some (.int .i64 xn) := HX0.out.cell 4
          have qq1 : wb.cell? ⟨ob, 1, none⟩ = some (.int .i64 xi) := HX.out.cell 1; have qq2 : wb.cell? ⟨ob, 2, none⟩ = some (.int .i64 xo) := HX.out.cell 2; have qq3 : wb.cell? ⟨ob, 3, none⟩ = some (.int .i64 xv) := HX.out.cell 3; have qq4 : wb.cell? ⟨ob, 4, none⟩ = some (.int .i64 xn) := HX.out.cell 4
          go_region_held3 (fun u => u.cell? ⟨ob, 1, none⟩ = some (.int .i64 xi) ∧ u.cell? ⟨ob, 2, none⟩ = some (.int .i64 xo) ∧ u.cell? ⟨ob, 3, none⟩ = some (.int .i64 xv) ∧ u.cell? ⟨ob, 4, none⟩ = some (.int .i64 xn))
            (first | with_reducible exact ⟨q21, q22, q23, q24⟩ | with_reducible exact ⟨q11, q12, q13, q14⟩ | with_reducible exact ⟨q01, q02, q03, q04⟩ | with_reducible exact ⟨qq1, qq2, qq3, qq4⟩)
            (first
              | (go_at_call 11; refine Calls.mono C1.out ?_; rintro e v1 ⟨rfl, t1⟩; have h1 := t1.kt _ _ _ HX0.out (by decide); have q11 : v1.cell? ⟨ob, 1, none⟩ = some (.int .i64 xi) := h1.cell 1; have q12 : v1.cell? ⟨ob, 2, none⟩ = some (.int .i64 xo) := h1.cell 2; have q13 : v1.cell? ⟨ob, 3, none⟩ = some (.int .i64 xv) := h1.cell 3; have q14 : v1.cell? ⟨ob, 4, none⟩ = some (.int .i64 xn) := h1.cell 4)
              | (go_at_call 22; refine Calls.mono (C2.out _ (HT0.out.mid t1)) ?_; rintro e v2 ⟨rfl, t2⟩; have h2 := t2.kt _ _ _ h1 (by decide); have q21 : v2.cell? ⟨ob, 1, none⟩ = some (.int .i64 xi) := h2.cell 1; have q22 : v2.cell? ⟨ob, 2, none⟩ = some (.int .i64 xo) := h2.cell 2; have q23 : v2.cell? ⟨ob, 3, none⟩ = some (.int .i64 xv) := h2.cell 3; have q24 : v2.cell? ⟨ob, 4, none⟩ = some (.int .i64 xn) := h2.cell 4))
          have HF : Hid (TR v2 w B m r n ob ⟨6, xi, xo, xv, xn⟩ (.int .i64 dn) (.int .i64 dn)) := ⟨Sn, dn, rfl, rfl, HT0.out.to t1 t2 HG.out.1 HG.out.2, h2, (HB0.out.trans t1.bel).trans t2.bel⟩
          clear t1 t2 h1 h2 C1 C2
          go_wp2_with fail
          go_meet
          case rel => exact HF.out
        by_cases k7 : xk = 7
        · as_aux_lemma =>
          subst k7
          have hX0 : Box wb.drew ob #[.int .i64 7, .int .i64 xi, .int .i64 xo, .int .i64 xv, .int .i64 xn] 38 := HX.out
          have hT0 : TS wb.drew B m r n S := HVb.out.below (Below.refl wb.heap.size wb).drew
          have hB0 : Below B w wb.drew := HBb.out.drew
          have HX0 : Hid (Box wb.drew ob #[.int .i64 7, .int .i64 xi, .int .i64 xo, .int .i64 xv, .int .i64 xn] 38) := hX0
          have HT0 : Hid (TS wb.drew B m r n S) := hT0
          have HB0 : Hid (Below B w wb.drew) := hB0
          have hvv := hT0.gd.hv xi
          have C1 : Hid (Calls Try.prog 11 #[.pointer (some ⟨m, 0, none⟩), .int .i64 xi, .int .i64 xo, .int .i64 xv, .int .i64 xn] wb.drew fun q w' => q = .returned (.int .i64 (S.publish xi xo (.int .i64 xv) xn).2) ∧ To 54 63 wb.drew B m (S.publish xi xo (.int .i64 xv) xn).1 w') := publish_at hT0.is xi xo xv xn hvv
          have C2 : Hid (∀ u, IsR u B r S → Calls Try.prog 22 #[.pointer (some ⟨r, 0, none⟩), .int .i64 xi, .int .i64 xo, .int .i64 xv, .int .i64 xn] u fun q w' => q = .returned (.int .i64 (S.publish xi xo (.int .i64 xv) xn).2) ∧ RTo u B r (S.publish xi xo (.int .i64 xv) xn).1 w') := fun u hu => rpublish_at hu xi xo xv xn hvv
          have HG : Hid (Gd (S.publish xi xo (.int .i64 xv) xn).1 ∧ (S.publish xi xo (.int .i64 xv) xn).1.C.length = S.C.length) := ⟨Gd.publish HVb.out.gd xi xo xv xn, M.publish_len S _ _ _ _⟩
          obtain ⟨Sn, hSn⟩ : ∃ Sn, Sn = (S.publish xi xo (.int .i64 xv) xn).1 := ⟨_, rfl⟩
          obtain ⟨dn, hdn⟩ : ∃ dn, dn = (S.publish xi xo (.int .i64 xv) xn).2 := ⟨_, rfl⟩
          rw [← hSn] at HG
          rw [← hSn, ← hdn] at C1 C2
          clear hSn hdn hvv hX0 hT0 hB0
          go_upto_region 34 with fail
          have q01 : wb.drew.cell? ⟨ob, 1, none⟩ = some (.int .i64 xi) := HX0.out.cell 1; have q02 : wb.drew.cell? ⟨ob, 2, none⟩ = some (.int .i64 xo) := HX0.out.cell 2; have q03 : wb.drew.cell? ⟨ob, 3, none⟩ = some (.int .i64 xv) := HX0.out.cell 3; have q04 : wb.drew.cell? ⟨ob, 4, none⟩ = some (.int .i64 xn) := HX0.out.cell 4
          have qq1 : wb.cell? ⟨ob, 1, none⟩ = some (.int .i64 xi) := HX.out.cell 1; have qq2 : wb.cell? ⟨ob, 2, none⟩ = some (.int .i64 xo) := HX.out.cell 2; have qq3 : wb.cell? ⟨ob, 3, none⟩ = some (.int .i64 xv) := HX.out.cell 3; have qq4 : wb.cell? ⟨ob, 4, none⟩ = some (.int .i64 xn) := HX.out.cell 4
          go_region_held3 (fun u => u.cell? ⟨ob, 1, none⟩ = some (.int .i64 xi) ∧ u.cell? ⟨ob, 2, none⟩ = some (.int .i64 xo) ∧ u.cell? ⟨ob, 3, none⟩ = some (.int .i64 xv) ∧ u.cell? ⟨ob, 4, none⟩ = some (.int .i64 xn))
            (first | with_reducible exact ⟨q21, q22, q23, q24⟩ | with_reducible exact ⟨q11, q12, q13, q14⟩ | with_reducible exact ⟨q01, q02, q03, q04⟩ | with_reducible exact ⟨qq1, qq2, qq3, qq4⟩)
            (first
              | (go_at_call 11; refine Calls.mono C1.out ?_; rintro e v1 ⟨rfl, t1⟩; have h1 := t1.kt _ _ _ HX0.out (by decide); have q11 : v1.cell? ⟨ob, 1, none⟩ = some (.int .i64 xi) := h1.cell 1; have q12 : v1.cell? ⟨ob, 2, none⟩ = some (.int .i64 xo) := h1.cell 2; have q13 : v1.cell? ⟨ob, 3, none⟩ = some (.int .i64 xv) := h1.cell 3; have q14 : v1.cell? ⟨ob, 4, none⟩ = some (.int .i64 xn) := h1.cell 4)
              | (go_at_call 22; refine Calls.mono (C2.out _ (HT0.out.mid t1)) ?_; rintro e v2 ⟨rfl, t2⟩; have h2 := t2.kt _ _ _ h1 (by decide); have q21 : v2.cell? ⟨ob, 1, none⟩ = some (.int .i64 xi) := h2.cell 1; have q22 : v2.cell? ⟨ob, 2, none⟩ = some (.int .i64 xo) := h2.cell 2; have q23 : v2.cell? ⟨ob, 3, none⟩ = some (.int .i64 xv) := h2.cell 3; have q24 : v2.cell? ⟨ob, 4, none⟩ = some (.int .i64 xn) := h2.cell 4))
          have HF : Hid (TR v2 w B m r n ob ⟨7, xi, xo, xv, xn⟩ (.int .i64 dn) (.int .i64 dn)) := ⟨Sn, dn, rfl, rfl, HT0.out.to t1 t2 HG.out.1 HG.out.2, h2, (HB0.out.trans t1.bel).trans t2.bel⟩
          clear t1 t2 h1 h2 C1 C2
          go_wp2_with fail
          go_meet
          case rel => exact HF.out
        as_aux_lemma =>
        have HF : Hid (TR wb w B m r n ob ⟨xk, xi, xo, xv, xn⟩ (.int .i64 0) (.int .i64 0)) := ⟨S, 0, rfl, rfl, HVb.out, HX.out, HBb.out⟩
        go_wp2_with fail
        go_meet
        case rel => exact HF.out
      case rest =>
        obtain ⟨S', d, rfl, rfl, hT, hX, hBw⟩ := hcut
        simp only [opC] at hX
        have HT : Hid (TS wc B m r n S') := hT
        have HXc : Hid (Box wc ob #[.int .i64 xk, .int .i64 xi, .int .i64 xo, .int .i64 xv, .int .i64 xn] 38) := hX
        have HBc : Hid (Below B w wc) := hBw
        clear hX hBw HVb HBb HX d0 d1 d2 d3 d4
        go_upto_region 35 with fail
        go_cut [207] from 184 to 206 (fun v u => v = .bool false ∧ TS u B m r n S' ∧ Below B w u)
        case first =>
          as_aux_lemma =>
          obtain ⟨rg, hrg, hrb, hrr⟩ := hT.ir.row
          have HT0 : Hid (TS wc.drew B m r n S') := hT.below (Below.refl wc.heap.size wc).drew
          have qq1 : wc.cell? ⟨r, 1, none⟩ = some (.int .i64 S'.k) := hrb.cell 1
          have qq2 : wc.cell? ⟨ob, 2, none⟩ = some (.int .i64 xo) := HXc.out.cell 2
          have q01 : wc.drew.cell? ⟨r, 1, none⟩ = some (.int .i64 S'.k) := qq1
          have q02 : wc.drew.cell? ⟨ob, 2, none⟩ = some (.int .i64 xo) := qq2
          have HL : Hid (r < wc.drew.heap.size ∧ ob < wc.drew.heap.size) := ⟨hrb.lt, HXc.out.lt⟩
          have C1 : Hid (Calls Try.prog 23 #[.pointer (some ⟨m, 0, none⟩)] wc.drew fun q w' => q = .returned (.int .i64 S'.k) ∧ w' = wc.drew) := clock_at HT0.out.is
          have C2 : Hid (Calls Try.prog 25 #[.pointer (some ⟨m, 0, none⟩), .int .i64 xo] wc.drew fun q w' => ∃ v', q = .returned v' ∧ w'.ownsRow wc.drew.heap.size 3 1 v' (S'.owned xo).length (ics (S'.owned xo)) ∧ Below wc.drew.heap.size wc.drew w') := owned_at HT0.out.is xo
          have C3 : Hid (∀ u, TS u B m r n S' → Calls Try.prog 26 #[.pointer (some ⟨r, 0, none⟩), .int .i64 xo] u fun q w' => ∃ v', q = .returned v' ∧ w'.ownsRow u.heap.size 3 1 v' (S'.owned xo).length (ics (S'.owned xo)) ∧ Below u.heap.size u w') := fun u hu => rowned_at hu.ir xo
          have HO : Hid ((S'.owned xo).length < 1000000) := by
            show (S'.owned xo).length < 1000000
            unfold M.owned
            split
            · have h1 := gat_le xo S'.C S'.C.length
              have h2 := HT0.out.is.rt.n2
              omega
            · simp
          clear hT hrg hrb hrr
          generalize S'.k = sk at qq1 q01 C1
          generalize S'.owned xo = L at C2 C3 HO
          go_region_held3 (fun u => u.cell? ⟨r, 1, none⟩ = some (.int .i64 sk) ∧ u.cell? ⟨ob, 2, none⟩ = some (.int .i64 xo))
            (first | with_reducible exact ⟨q41, q42⟩ | with_reducible exact ⟨q31, q32⟩ | with_reducible exact ⟨q21, q22⟩ | with_reducible exact ⟨q01, q02⟩ | with_reducible exact ⟨qq1, qq2⟩)
            (first
              | (go_at_call 23; refine Calls.mono C1.out ?_; rintro e v1 ⟨rfl, hv1⟩; subst hv1)
              | (go_at_call 25; refine Calls.mono C2.out ?_; rintro e v2 ⟨s2, rfl, o2, b2⟩; have T2 : Hid (TS v2 B m r n S') := HT0.out.below b2; have q21 : v2.cell? ⟨r, 1, none⟩ = some (.int .i64 sk) := (b2.cell (p := ⟨r, 1, none⟩) HL.out.1).trans q01; have q22 : v2.cell? ⟨ob, 2, none⟩ = some (.int .i64 xo) := (b2.cell (p := ⟨ob, 2, none⟩) HL.out.2).trans q02)
              | (go_at_call 26; refine Calls.mono (C3.out _ T2.out) ?_; rintro e v3 ⟨s3, rfl, o3, b3⟩; have T3 : Hid (TS v3 B m r n S') := T2.out.below b3; have q31 : v3.cell? ⟨r, 1, none⟩ = some (.int .i64 sk) := (b3.cell (p := ⟨r, 1, none⟩) (Nat.lt_of_lt_of_le HL.out.1 b2.size)).trans q21; have q32 : v3.cell? ⟨ob, 2, none⟩ = some (.int .i64 xo) := (b3.cell (p := ⟨ob, 2, none⟩) (Nat.lt_of_lt_of_le HL.out.2 b2.size)).trans q22)
              | (go_at_call 24; refine Calls.mono (same_ints (ownsRow_kt (p := fun _ => True) o2 (Kt.below b3) trivial) o3 HO.out) ?_; rintro e v4 ⟨rfl, n4, rfl⟩; have q41 : (v3.drewN n4).cell? ⟨r, 1, none⟩ = some (.int .i64 sk) := q31; have q42 : (v3.drewN n4).cell? ⟨ob, 2, none⟩ = some (.int .i64 xo) := q32))
          have HF : Hid (TS (v3.drewN n4) B m r n S' ∧ Below B w (v3.drewN n4)) := ⟨T3.out.below (Below.drewN (Below.refl _ _) n4), Below.drewN ((HBc.out.drew.trans (b2.mono HT0.out.is.hB)).trans (b3.mono T2.out.is.hB)) n4⟩
          clear o2 o3 b2 b3 T2 T3 q21 q22 q31 q32 q41 q42 qq1 qq2 q01 q02
          go_wp2_with fail
          go_meet
          case rel => exact ⟨rfl, HF.out.1, HF.out.2⟩
        case rest =>
          clear hT HT HXc HBc
          obtain ⟨rfl, hT, hBw⟩ := hcut
          have HT : Hid (TS wc B m r n S') := hT
          have HBc : Hid (Below B w wc) := hBw
          clear hT hBw
          go_wp2_with fail
          go_roundw
          case rel => exact ⟨k + 1, by omega, by omega, by go_num, ⟨S', HT.out⟩, HBc.out⟩
          case measure => simp [intOf]; omega
    · clear hV hb HR
      have hnn : (n : Int) ≤ 1024 := by omega
      by_cases hg : (k : Int) < (n0 : Int)
      · have hk2 : k = 300 := by omega
        subst k
        as_aux_lemma =>
        go_wp2_with fail
        go_loopw [23] (fun c u => ∃ i : Nat, i ≤ n ∧ c = .int .i64 (i : Int) ∧ TS u B m r n S ∧ Below B w u) (fun c _ => n - (intOf c).toNat)
        case atStart => exact ⟨0, by omega, rfl, HVa.out, HBa.out⟩
        case round =>
          obtain ⟨i, hin, rfl, hT, hBw⟩ := hrel
          obtain ⟨wd, hwd⟩ : ∃ wd, wd = wr := ⟨_, rfl⟩
          subst hwd
          have HT : Hid (TS wd B m r n S) := hT
          have HBd : Hid (Below B w wd) := hBw
          clear hBw
          by_cases hil : i < n
          · have hii : (i : Int) < (n : Int) := by omega
            obtain ⟨c, hc⟩ : ∃ c, S.C[i]? = some c := ⟨_, List.getElem?_eq_getElem (by rw [hT.len]; exact hil)⟩
            have cL := load_at hT.is (i : Int)
            have eL : M.load S (i : Int) = (c.v, c.ver, c.own, 0) := by simp [M.load, M.cell?, hc]
            obtain ⟨y, hy⟩ := hT.gd.num c (List.mem_of_getElem? hc)
            rw [eL, hy] at cL
            obtain ⟨rg, hrg, hrb, hrr⟩ := hT.ir.row
            obtain ⟨g0, g1, g2⟩ := hrr.get hc
            rw [hy] at g0
            have gs : wd.cell? ⟨r, 0, none⟩ = some (.slice (some ⟨rg, 0, none⟩) S.C.length S.C.length) := hrb.cell 0
            rw [hT.len] at gs
            obtain ⟨xv, xk, xo⟩ := c
            simp only at cL g0 g1 g2
            clear hT eL hc hy hrg hrb hrr
            unfold ptr at cL
            go_wp2_with fail
            refine Calls.mono cL ?_
            rintro e wx ⟨rfl, nq, rfl⟩
            have HTe : Hid (TS (wd.drewN nq) B m r n S) := HT.out.below (Below.drewN (Below.refl _ _) nq)
            have HBe : Hid (Below B w (wd.drewN nq)) := Below.drewN HBd.out nq
            have r0 : (wd.drewN nq).cell? ⟨rg, i * 3, none⟩ = some (.int .i64 y) := g0
            have r1 : (wd.drewN nq).cell? ⟨rg, i * 3 + 1, none⟩ = some (.int .i64 xk) := g1
            have r2 : (wd.drewN nq).cell? ⟨rg, i * 3 + 2, none⟩ = some (.int .i64 xo) := g2
            have rs : (wd.drewN nq).cell? ⟨r, 0, none⟩ = some (.slice (some ⟨rg, 0, none⟩) n n) := gs
            obtain ⟨we, hwe⟩ : ∃ we, we = wd.drewN nq := ⟨_, rfl⟩
            rw [← hwe] at HTe HBe r0 r1 r2 rs ⊢
            clear cL HT HBd hwe g0 g1 g2 gs
            have bc := Box.new we #[.int .i64 y, .int .i64 xk, .int .i64 xo] 40
            have bz := (Below.refl we.heap.size we).alloc (Nat.le_refl _) (.cells #[.int .i64 y, .int .i64 xk, .int .i64 xo] 40)
            have HF : Hid (TS (we.alloc (.cells #[.int .i64 y, .int .i64 xk, .int .i64 xo] 40)) B m r n S ∧ Below B w (we.alloc (.cells #[.int .i64 y, .int .i64 xk, .int .i64 xo] 40))) := ⟨HTe.out.below bz, HBe.out.trans (bz.mono HTe.out.is.hB)⟩
            have g0 := bc.cell 0
            have g1 := bc.cell 1
            have g2 := bc.cell 2
            simp only [List.getElem?_toArray, List.getElem?_cons_zero, List.getElem?_cons_succ] at g0 g1 g2
            clear bc bz HTe HBe
            go_wp2_with fail
            go_roundw
            case rel => exact ⟨i + 1, by omega, by go_num, HF.out.1, HF.out.2⟩
            case measure => simp [intOf]; omega
          · have hi : i = n := by omega
            subst i
            have cS := size_at hT.is
            rw [hT.len] at cS
            have cA := awake_at wd
            unfold ptr at cS
            clear hT
            go_wp2_with fail
            refine Calls.mono cS ?_
            rintro e wx ⟨rfl, hwx⟩
            subst wx
            go_wp2_with fail
            refine Calls.mono cA ?_
            rintro e wx ⟨rfl, bx⟩
            have HF : Hid (Below B w wx) := HBd.out.trans (bx.mono HT.out.is.hB)
            clear cA cS bx
            go_wp2_with fail
            go_ret
            exact ⟨rfl, by rw [← HB.out]; exact HF.out⟩
      · as_aux_lemma =>
        go_wp2_with fail
        go_loopw [23] (fun c u => ∃ i : Nat, i ≤ n ∧ c = .int .i64 (i : Int) ∧ TS u B m r n S ∧ Below B w u) (fun c _ => n - (intOf c).toNat)
        case atStart => exact ⟨0, by omega, rfl, HVa.out, HBa.out⟩
        case round =>
          obtain ⟨i, hin, rfl, hT, hBw⟩ := hrel
          obtain ⟨wd, hwd⟩ : ∃ wd, wd = wr := ⟨_, rfl⟩
          subst hwd
          have HT : Hid (TS wd B m r n S) := hT
          have HBd : Hid (Below B w wd) := hBw
          clear hBw
          by_cases hil : i < n
          · have hii : (i : Int) < (n : Int) := by omega
            obtain ⟨c, hc⟩ : ∃ c, S.C[i]? = some c := ⟨_, List.getElem?_eq_getElem (by rw [hT.len]; exact hil)⟩
            have cL := load_at hT.is (i : Int)
            have eL : M.load S (i : Int) = (c.v, c.ver, c.own, 0) := by simp [M.load, M.cell?, hc]
            obtain ⟨y, hy⟩ := hT.gd.num c (List.mem_of_getElem? hc)
            rw [eL, hy] at cL
            obtain ⟨rg, hrg, hrb, hrr⟩ := hT.ir.row
            obtain ⟨g0, g1, g2⟩ := hrr.get hc
            rw [hy] at g0
            have gs : wd.cell? ⟨r, 0, none⟩ = some (.slice (some ⟨rg, 0, none⟩) S.C.length S.C.length) := hrb.cell 0
            rw [hT.len] at gs
            obtain ⟨xv, xk, xo⟩ := c
            simp only at cL g0 g1 g2
            clear hT eL hc hy hrg hrb hrr
            unfold ptr at cL
            go_wp2_with fail
            refine Calls.mono cL ?_
            rintro e wx ⟨rfl, nq, rfl⟩
            have HTe : Hid (TS (wd.drewN nq) B m r n S) := HT.out.below (Below.drewN (Below.refl _ _) nq)
            have HBe : Hid (Below B w (wd.drewN nq)) := Below.drewN HBd.out nq
            have r0 : (wd.drewN nq).cell? ⟨rg, i * 3, none⟩ = some (.int .i64 y) := g0
            have r1 : (wd.drewN nq).cell? ⟨rg, i * 3 + 1, none⟩ = some (.int .i64 xk) := g1
            have r2 : (wd.drewN nq).cell? ⟨rg, i * 3 + 2, none⟩ = some (.int .i64 xo) := g2
            have rs : (wd.drewN nq).cell? ⟨r, 0, none⟩ = some (.slice (some ⟨rg, 0, none⟩) n n) := gs
            obtain ⟨we, hwe⟩ : ∃ we, we = wd.drewN nq := ⟨_, rfl⟩
            rw [← hwe] at HTe HBe r0 r1 r2 rs ⊢
            clear cL HT HBd hwe g0 g1 g2 gs
            have bc := Box.new we #[.int .i64 y, .int .i64 xk, .int .i64 xo] 40
            have bz := (Below.refl we.heap.size we).alloc (Nat.le_refl _) (.cells #[.int .i64 y, .int .i64 xk, .int .i64 xo] 40)
            have HF : Hid (TS (we.alloc (.cells #[.int .i64 y, .int .i64 xk, .int .i64 xo] 40)) B m r n S ∧ Below B w (we.alloc (.cells #[.int .i64 y, .int .i64 xk, .int .i64 xo] 40))) := ⟨HTe.out.below bz, HBe.out.trans (bz.mono HTe.out.is.hB)⟩
            have g0 := bc.cell 0
            have g1 := bc.cell 1
            have g2 := bc.cell 2
            simp only [List.getElem?_toArray, List.getElem?_cons_zero, List.getElem?_cons_succ] at g0 g1 g2
            clear bc bz HTe HBe
            go_wp2_with fail
            go_roundw
            case rel => exact ⟨i + 1, by omega, by go_num, HF.out.1, HF.out.2⟩
            case measure => simp [intOf]; omega
          · have hi : i = n := by omega
            subst i
            have cS := size_at hT.is
            rw [hT.len] at cS
            have cA := awake_at wd
            unfold ptr at cS
            clear hT
            go_wp2_with fail
            refine Calls.mono cS ?_
            rintro e wx ⟨rfl, hwx⟩
            subst wx
            go_wp2_with fail
            refine Calls.mono cA ?_
            rintro e wx ⟨rfl, bx⟩
            have HF : Hid (Below B w wx) := HBd.out.trans (bx.mono HT.out.is.hB)
            clear cA cS bx
            go_wp2_with fail
            go_ret
            exact ⟨rfl, by rw [← HB.out]; exact HF.out⟩
end Go.Proofs.Ytinflodnkopcdaa
