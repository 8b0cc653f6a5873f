/-
  'at': the cells as of a version, out of the histories.
-/
import Derived.Test.YtafiopjgegmfoaaLResM
import Derived.Maps.RangeWalk
namespace Go.Proofs.Ytafiopjgegmfoaa.T
open Go.RowKit Go.Maps Go.Proofs.Ytafiopjgegmfoaa.C
/-- six cells -/
def sixOf (f : Int → Int) : Array Value := #[.int .i64 (f 0), .int .i64 (f 1), .int .i64 (f 2), .int .i64 (f 3), .int .i64 (f 4), .int .i64 (f 5)]
theorem sixOf_set (f : Int → Int) (x v : Int) (h : 0 ≤ x ∧ x < 6) : (sixOf f).setIfInBounds x.toNat (.int .i64 v) = sixOf (fun j => if j = x then v else f j) := by
  have : x = 0 ∨ x = 1 ∨ x = 2 ∨ x = 3 ∨ x = 4 ∨ x = 5 := by omega
  rcases this with rfl | rfl | rfl | rfl | rfl | rfl <;> rfl
theorem sixOf_congr {f g : Int → Int} (h : ∀ j, 0 ≤ j → j < 6 → f j = g j) : sixOf f = sixOf g := by
  unfold sixOf
  rw [h 0 (by decide) (by decide), h 1 (by decide) (by decide), h 2 (by decide) (by decide), h 3 (by decide) (by decide), h 4 (by decide) (by decide), h 5 (by decide) (by decide)]
/-- a map's pairs, but for those that are still to come -/
def mid (w : List (Int × Int)) (left : Lit → Bool) (f : Int → Int) : Int → Int := fun i => if left (.int .i64 i) then f i else over w f i
theorem mid_start (w : List (Int × Int)) {D : DataW Value} (f : Int → Int) (h : ∀ j, 0 ≤ j → j < 6 → has D (.int .i64 j) = (gt w j).isSome) : sixOf (mid w (has D) f) = sixOf f := sixOf_congr fun j h1 h2 => by
  unfold mid over
  rw [h j h1 h2]
  cases gt w j <;> simp
theorem mid_step (w : List (Int × Int)) (left : Lit → Bool) (f : Int → Int) {x c : Int} (h : gt w x = some c) : mid w (fun z => left z && !z.sameKey (.int .i64 x)) f = fun j => if j = x then c else mid w left f j := funext fun j => by
  unfold mid
  have e : (Lit.int .i64 j).sameKey (.int .i64 x) = decide (j = x) := by
    by_cases hj : j = x
    · subst hj; simp [Lit.sameKey]
    · simp [Lit.sameKey, hj]
  show (if (left (.int .i64 j) && !(Lit.int .i64 j).sameKey (.int .i64 x)) = true then f j else over w f j) = _
  rw [e]
  by_cases hj : j = x
  · subst hj
    simp [over, h]
  · simp [hj]
theorem mid_end (w : List (Int × Int)) {left : Lit → Bool} (f : Int → Int) (h : ∀ kl, left kl = false) : mid w left f = over w f := funext fun j => by
  unfold mid
  rw [h]
  rfl
theorem layer_take {A : List Hs} {j : Nat} {h : Hs} (k : Int) (f : Int → Int) (hA : A[j]? = some h) : layer (A.take (j + 1)) k f = if h.hit k then over h.wr (layer (A.take j) k f) else layer (A.take j) k f := by
  unfold layer
  rw [List.take_add_one, hA, List.foldl_append]
  rfl
theorem held_is {D : DataW Value} {w : List (Int × Int)} {x : Int} {c : Value} {y : DataW Value} {p : List MemPlace} (h1 : has D (.int .i64 x) = true) (h2 : has D (.int .i64 x) = (gt w x).isSome) (h3 : ∀ z, D.atKey (.int .i64 x) z = (((gt w x).map encI).map DataW.held).getD z) (h4 : ∀ z, D.atKey (.int .i64 x) z = y) (h5 : rV c = some (y, p)) : ∃ v, gt w x = some v ∧ c = .int .i64 v := by
  rw [h1] at h2
  cases hg : gt w x with
  | none => rw [hg] at h2; cases h2
  | some v =>
    refine ⟨v, rfl, ?_⟩
    have := (h4 (.held c)).symm.trans (h3 (.held c))
    rw [hg] at this
    unfold rV at h5
    injection h5 with h5
    injection h5 with h5 _
    rw [← h5] at this
    injection this with this
set_option maxRecDepth 20000 in
theorem res6 {tmps : Array Value} {w : World} {ub : Nat} {f : Int → Int} (h4 : tmps.getD 4 undef = .pointer (some ⟨ub, 0, none⟩)) (hb : Box w ub (sixOf f) 24) :
    (results Try.f6 tmps).run Try.prog w = .ok (.agg (sixOf f)) w := by
  have r0 : w.cell? ⟨ub, 0, none⟩ = some (.int .i64 (f 0)) := hb.cell 0
  have r1 : w.cell? ⟨ub, 1, none⟩ = some (.int .i64 (f 1)) := hb.cell 1
  have r2 : w.cell? ⟨ub, 2, none⟩ = some (.int .i64 (f 2)) := hb.cell 2
  have r3 : w.cell? ⟨ub, 3, none⟩ = some (.int .i64 (f 3)) := hb.cell 3
  have r4 : w.cell? ⟨ub, 4, none⟩ = some (.int .i64 (f 4)) := hb.cell 4
  have r5 : w.cell? ⟨ub, 5, none⟩ = some (.int .i64 (f 5)) := hb.cell 5
  simp only [Array.getD_eq_getD_getElem?] at h4
  simp [results, Try.results6, go_sem, h4, r0, r1, r2, r3, r4, r5, sixOf]
/-- the row as it stands: f -/
structure KA (w u : World) (ub cb : Nat) (f : Int → Int) : Prop where
  bel : Below w.heap.size w u
  bu : Box u ub z6 24
  bc : Box u cb (sixOf f) 24
  ne : ub ≠ cb
  lo : w.heap.size ≤ ub ∧ w.heap.size ≤ cb
theorem KA.drew {w u : World} {ub cb : Nat} {f : Int → Int} (h : KA w u ub cb f) : KA w u.drew ub cb f := ⟨⟨h.bel.os, h.bel.tape, h.bel.output, h.bel.size, h.bel.block⟩, h.bu, h.bc, h.ne, h.lo⟩
/-- what the walk wants of a history -/
structure AtH (w : World) (g j : Nat) (b : HB) (h : Hs) : Prop where
  row : w.cell? ⟨g, j, none⟩ = some (.pointer (some ⟨b.h, 0, none⟩))
  dn : w.cell? ⟨b.h, 4, none⟩ = some (.bool h.done)
  vr : w.cell? ⟨b.h, 1, none⟩ = some (.int .i64 h.ver)
  mb : w.cell? ⟨b.h, 3, none⟩ = some (.map (some b.mb))
  mp : MapL encI w b.mb h.wr
  lo : b.mb < w.heap.size
theorem AtH.of {w : World} {B : Nat} {G : Nat → Prop} {P : List HB} {A : List Hs} {a : Option Addr} {N c : Nat} (hm : Hm w B G P A) (hN : A.length = N) (hr : w.ownsRow B 28 1 (.slice a N c) N (hpt P)) (j : Nat) (hj : j < N) :
    ∃ h b g, A[j]? = some h ∧ a = some ⟨g, 0, none⟩ ∧ ∀ u, Below w.heap.size w u → AtH u g j b h := by
  obtain ⟨h, ha⟩ : ∃ h, A[j]? = some h := ⟨_, List.getElem?_eq_getElem (by omega)⟩
  obtain ⟨b, hp, o, _⟩ := hm.at ha
  obtain ⟨g, cap, e, hc⟩ := ownsRow_cell hr j hj
  injection e with e1 _ _
  refine ⟨h, b, g, ha, e1, fun u hu => ?_⟩
  have o2 : OneH u B b h := o.stay (fun y hy => hu.block y (o.lt y hy).2)
  have hr2 := ownsRow_below hr hu.block
  obtain ⟨g2, cap2, e2, hc2⟩ := ownsRow_cell hr2 j hj
  injection e2 with e3 _ _
  rw [e1] at e3
  injection e3 with e3
  injection e3 with e3 _ _
  subst e3
  refine ⟨?_, o2.box.cell 4, o2.box.cell 1, o2.box.cell 3, o2.mp, o2.mp.lt⟩
  rw [hc2]
  simp [hpt, hp, ptr]
set_option maxHeartbeats 8000000 in
set_option maxRecDepth 100000 in
theorem at_at {w : World} {B : Nat} {G : Nat → Prop} {P : List HB} {A : List Hs} {a : Option Addr} {N c : Nat} (hm : Hm w B G P A) (hN : A.length = N) (hr : w.ownsRow B 28 1 (.slice a N c) N (hpt P)) (hin : AllIn A) (n : Int) (hn : n ≤ 1099511627776) (hl : N ≤ 1000) :
    Calls Try.prog 6 #[.slice a N c, .int .i64 n] w fun r w' => r = .returned (.agg (sixOf (atP A n.toNat))) ∧ Below w.heap.size w w' := by
  have HF : Hid (∀ j, j < N → ∃ h b g, A[j]? = some h ∧ a = some ⟨g, 0, none⟩ ∧ ∀ u, Below w.heap.size w u → AtH u g j b h) := fun j hj => AtH.of hm hN hr j hj
  have HI : Hid (AllIn A ∧ A.length = N) := ⟨hin, hN⟩
  obtain ⟨v0, hv0⟩ : ∃ v0, v0 = (w.alloc (.cells z6 24)).alloc (.cells z6 24) := ⟨_, rfl⟩
  have s1 : (w.alloc (.cells z6 24)).heap.size = w.heap.size + 1 := by simp
  have x2 := Box.new (w.alloc (.cells z6 24)) z6 24
  rw [s1, ← hv0] at x2
  have x1 : Box v0 w.heap.size z6 24 := by rw [hv0]; exact (Box.new w _ 24).alloc _
  have hb0 : Below w.heap.size w v0 := by rw [hv0]; exact ((Below.refl _ _).alloc (Nat.le_refl _) _).alloc (by simp) _
  have K0 : Hid (KA w v0 w.heap.size (w.heap.size + 1) (atP A 0)) := ⟨hb0, x1, x2, by omega, by omega, by omega⟩
  have HV : Hid (v0 = (w.alloc (.cells z6 24)).alloc (.cells z6 24)) := hv0
  clear hb0 x1 x2 hv0 s1 hm hr hin hN
  go_enter Try.func6, Try.ntmps6
  go_wp2_with fail
  unfold Hid z6 at HV
  rw [← HV]
  clear HV
  obtain ⟨cb, hcb⟩ : ∃ cb, cb = w.heap.size + 1 := ⟨_, rfl⟩
  obtain ⟨ub, hub⟩ : ∃ ub, ub = w.heap.size := ⟨_, rfl⟩
  rw [← hcb, ← hub] at K0
  rw [← hcb, ← hub]
  clear hcb hub
  go_loopw [6] (fun i u' => ∃ k : Nat, k ≤ n.toNat ∧ i = .int .i64 ((k : Int) + 1) ∧ KA w u' ub cb (atP A k)) (fun i _ => n.toNat + 1 - (civ i).toNat)
  case atStart => exact ⟨0, by omega, rfl, K0.out⟩
  case round =>
    obtain ⟨k, hk, rfl, hK⟩ := hrel
    have HK : Hid (KA w wr ub cb (atP A k)) := hK
    clear hK K0
    by_cases hlt : (k : Int) + 1 ≤ n
    · go_wp2_with fail
      go_loopw [18] (fun i u' => ∃ j : Nat, j ≤ N ∧ i = .int .i64 (j : Int) ∧ KA w u' ub cb (layer (A.take j) ((k : Int) + 1) (atP A k))) (fun i _ => N - (civ i).toNat)
      case atStart => exact ⟨0, by omega, rfl, HK.out⟩
      case round =>
        obtain ⟨j, hj, rfl, hK⟩ := hrel
        have HK2 : Hid (KA w wr ub cb (layer (A.take j) ((k : Int) + 1) (atP A k))) := hK
        clear hK HK
        by_cases hjt : j < N
        · obtain ⟨h, b, g, hA, ha, hall⟩ := HF.out j hjt
          subst ha
          have hjn : (j : Int) < (N : Int) := by omega
          have HH : Hid (∀ u, Below w.heap.size w u → AtH u g j b h) := hall
          have f0 := hall wr HK2.out.bel
          have cr := f0.row
          have cd := f0.dn
          have cv := f0.vr
          have cm := f0.mb
          have hwl : h.wr.length ≤ 256 := f0.mp.gd.le
          have cln : ∀ ty, (Builtin.len_ #[30] ty #[.map (some b.mb)]).run Try.prog wr = .ok (.int .i64 (h.wr.length : Int)) wr := fun ty => f0.mp.len 30 3 Try.underlying30 ty
          have HNo : Hid (¬ h.hit ((k : Int) + 1) → KA w wr ub cb (layer (A.take (j + 1)) ((k : Int) + 1) (atP A k))) := fun hno => by
            rw [layer_take _ _ hA, if_neg hno]
            exact HK2.out
          have HYes : Hid (h.hit ((k : Int) + 1) → ∀ u, KA w u ub cb (over h.wr (layer (A.take j) ((k : Int) + 1) (atP A k))) → KA w u ub cb (layer (A.take (j + 1)) ((k : Int) + 1) (atP A k))) := fun hit u hu => by
            rw [layer_take _ _ hA, if_pos hit]
            exact hu
          have HIn : Hid h.In := HI.out.1 j h hA
          have HFA : Hid (AtH wr g j b h) := f0
          clear hall hA f0
          by_cases hd : h.done = true
          · rw [hd] at cd
            by_cases hv : h.ver = (k : Int) + 1
            · rw [hv] at cv
              by_cases hw : 0 < h.wr.length
              · have hwi : (0 : Int) < (h.wr.length : Int) := by omega
                obtain ⟨D, hown, _, hD⟩ := HFA.out.mp.mp
                have HD : Hid (∀ x : Int, (Lit.int .i64 x).wf = true → has D (.int .i64 x) = (gt h.wr x).isSome ∧ ∀ z, D.atKey (.int .i64 x) z = (((gt h.wr x).map encI).map DataW.held).getD z) := fun x hx => ⟨by rw [(hD x hx).1, Option.isSome_map], (hD x hx).2⟩
                have HY : Hid (∀ u, KA w u ub cb (over h.wr (layer (A.take j) ((k : Int) + 1) (atP A k))) → KA w u ub cb (layer (A.take (j + 1)) ((k : Int) + 1) (atP A k))) := HYes.out ⟨hd, hv, hw⟩
                obtain ⟨F, hFF⟩ : ∃ F, F = layer (A.take j) ((k : Int) + 1) (atP A k) := ⟨_, rfl⟩
                rw [← hFF] at HY HK2
                clear hD HNo HYes hFF hw
                obtain ⟨M0, hM0⟩ : ∃ M0, M0 = h.wr.length := ⟨_, rfl⟩
                have HMB : Hid (b.mb < w.heap.size) := (HH.out w (Below.refl _ _)).lo
                rw [← hM0] at cln hown hwi hwl
                clear hM0 HFA
                go_wp2_with (first
                  | (at_range; refine wpList_range_own _ rfl _ 30 rfl 3 3 keyed3 Try.underlying30 _ b.mb _ _ rfl hown ?_; intro w0 hrg0 hg0 hs0)
                  | fail)
                obtain ⟨rb, hrb⟩ : ∃ rb, rb = wr.heap.size := ⟨_, rfl⟩
                have HRB : Hid (w.heap.size ≤ rb ∧ ub < rb ∧ cb < rb) := ⟨by rw [hrb]; exact HK2.out.bel.size, by rw [hrb]; exact HK2.out.bu.lt, by rw [hrb]; exact HK2.out.bc.lt⟩
                have K3 : Hid (KA w w0 ub cb (mid h.wr (has D) F)) := by
                  obtain ⟨q1, q2, q3, q4, q5⟩ := HK2.out
                  have hb : Below wr.heap.size wr w0 := (Below.refl _ _).grown hg0 (Nat.le_refl _) (fun j hj => by cases hj)
                  refine ⟨q1.trans (hb.mono q1.size), q2.below hb q2.lt, ?_, q4, q5⟩
                  rw [mid_start h.wr F (fun j h1 h2 => (HD.out j (WalkArith.wf_i64 (by omega))).1)]
                  exact q3.below hb q3.lt
                have HML : Hid (b.mb < w.heap.size) := HMB.out
                rw [← hrb] at hrg0 ⊢
                clear hrb hg0 hs0 hown cln HK2 HMB cr cd cv cm
                go_loopw [9] (fun _ u' => ∃ (left : Lit → Bool) (cnt : Nat), u'.ranges Try.prog 3 rV b.mb rb M0 D left cnt ∧ (∀ kl, left kl = true → has D kl = true) ∧ KA w u' ub cb (mid h.wr left F)) (fun _ u' => u'.rangeLeft b.mb rb)
                case atStart => exact ⟨_, _, hrg0, fun kl h => h, K3.out⟩
                case round =>
                  obtain ⟨left, cnt, hrg, hle, hK⟩ := hrel
                  have HK3 : Hid (KA w wr ub cb (mid h.wr left F)) := hK
                  clear hK K3 hrg0
                  go_wp2_with (first
                    | (at_next; refine wpList_next_ranges _ rfl _ rfl 3 keyed3 rV encZ (fun v : Value => v) (fun key kl hk => by obtain ⟨x, hx, _⟩ := Maps.keyOf_i64 Try.underlying3 hk; exact ⟨x, hx⟩) (fun v y _ => ⟨v, rfl⟩) b.mb rb M0 _ _ _ rfl hrg ?_ ?_)
                    | fail)
                  · intro hc0 hl0
                    have HN : Hid (KA w wr ub cb (layer (A.take (j + 1)) ((k : Int) + 1) (atP A k))) := HY.out _ (by rw [← mid_end h.wr F hl0]; exact HK3.out)
                    clear hrg hle hl0 hc0 HK3 HY
                    go_wp2_with fail
                    go_roundw
                    case rel => exact ⟨j + 1, by omega, by go_num, HN.out⟩
                    case measure => simp only [civ]; omega
                  · intro x c kl yd yp w2 cnt2 hkey hlk hv hat hrg2 hlt2 hg2 hs2 hen
                    obtain ⟨x', ex, rfl, hwx⟩ := Maps.keyOf_i64 Try.underlying3 hkey
                    obtain rfl : x = x' := encZ_inj ex
                    obtain ⟨y, hgx, rfl⟩ := held_is (hle _ hlk) (HD.out x hwx).1 (HD.out x hwx).2 hat hv
                    have hx6 : 0 ≤ x ∧ x < 6 := HIn.out.wr x ((gt_some_iff _ _).2 (by rw [hgx]; rfl))
                    obtain ⟨i, rfl⟩ : ∃ i : Nat, x = (i : Int) := ⟨x.toNat, by omega⟩
                    have hi6 : i < 6 := by omega
                    have bc2 : Box w2 cb (sixOf (mid h.wr left F)) 24 := (hg2.block cb HK3.out.bc.lt (fun e => by injection e with e; have := HRB.out.2.2; omega)).trans HK3.out.bc
                    have bu2 : Box w2 ub z6 24 := (hg2.block ub HK3.out.bu.lt (fun e => by injection e with e; have := HRB.out.2.1; omega)).trans HK3.out.bu
                    have bl2 : Below w.heap.size w w2 := HK3.out.bel.grown hg2 HK3.out.bel.size (fun j hj => by cases hj; exact HRB.out.1)
                    have hrg3 := hrg2.kept (grown_store w2 cb i (.int .i64 y)) (fun e => by injection e with e; have := HML.out; have := HK3.out.lo.2; omega) (fun e => by injection e with e; have := HRB.out.2.2; omega)
                    have K4 : Hid (KA w (w2.setCell ⟨cb, i, none⟩ (.int .i64 y)) ub cb (mid h.wr (fun z => left z && !z.sameKey (.int .i64 (i : Int))) F)) := by
                      refine ⟨bl2.grown (grown_store w2 cb i (.int .i64 y)) bl2.size (fun k e => by cases e; exact HK3.out.lo.2), (heap_setCell_other w2 _ ub _ HK3.out.ne).trans bu2, ?_, HK3.out.ne, HK3.out.lo⟩
                      have := bc2.store i (.int .i64 y)
                      have e := sixOf_set (mid h.wr left F) (i : Int) y hx6
                      rw [Int.toNat_natCast] at e
                      rw [e, ← mid_step h.wr left F hgx] at this
                      exact this
                    obtain ⟨y0, cy⟩ : ∃ y0, w2.cell? ⟨cb, i, none⟩ = some y0 := by
                      rw [bc2.cell i]
                      have : i = 0 ∨ i = 1 ∨ i = 2 ∨ i = 3 ∨ i = 4 ∨ i = 5 := by omega
                      rcases this with rfl | rfl | rfl | rfl | rfl | rfl <;> exact ⟨_, rfl⟩
                    have fy : w2.frozen? ⟨cb, i, none⟩ = false := bc2.frozen i
                    have HR3 : Hid ((w2.setCell ⟨cb, i, none⟩ (.int .i64 y)).ranges Try.prog 3 rV b.mb rb M0 D (fun z => left z && !z.sameKey (.int .i64 (i : Int))) cnt2 ∧ (∀ kl, (left kl && !kl.sameKey (.int .i64 (i : Int))) = true → has D kl = true) ∧ wr.ranges Try.prog 3 rV b.mb rb M0 D left cnt ∧ cnt2 < cnt) := ⟨hrg3, fun kl hk => hle kl (by simp at hk; exact hk.1), hrg, hlt2⟩
                    unfold encZ at hen
                    clear hs2 hrg hrg2 hrg3 hle hlk hv hat hkey hgx bc2 bu2 bl2 hg2 HK3 ex hlt2
                    go_wp2_with fail
                    go_roundw
                    case rel => exact ⟨_, cnt2, HR3.out.1, HR3.out.2.1, K4.out⟩
                    case measure => rw [HR3.out.1.left_eq, HR3.out.2.2.1.left_eq]; exact HR3.out.2.2.2
              · have hwi : ¬ (0 : Int) < (h.wr.length : Int) := by omega
                have hw0 : (h.wr.length : Int) = 0 := by omega
                rw [hw0] at cln
                have HN : Hid (KA w wr ub cb (layer (A.take (j + 1)) ((k : Int) + 1) (atP A k))) := HNo.out (fun e => hw e.2.2)
                clear HNo HYes HIn HFA HH
                go_wp2_with fail
                go_roundw
                case rel => exact ⟨j + 1, by omega, by go_num, HN.out⟩
                case measure => simp only [civ]; omega
            · have HN : Hid (KA w wr ub cb (layer (A.take (j + 1)) ((k : Int) + 1) (atP A k))) := HNo.out (fun e => hv e.2.1)
              clear HNo HYes HIn HFA HH
              go_wp2_with fail
              go_roundw
              case rel => exact ⟨j + 1, by omega, by go_num, HN.out⟩
              case measure => simp only [civ]; omega
          · have hd : h.done = false := by simpa using hd
            rw [hd] at cd
            have HN : Hid (KA w wr ub cb (layer (A.take (j + 1)) ((k : Int) + 1) (atP A k))) := HNo.out (fun e => by rw [e.1] at hd; cases hd)
            clear HNo HYes HIn HFA HH
            go_wp2_with fail
            go_roundw
            case rel => exact ⟨j + 1, by omega, by go_num, HN.out⟩
            case measure => simp only [civ]; omega
        · have hjN : j = N := by omega
          have hjn : ¬ (j : Int) < (N : Int) := by omega
          have HK3 : Hid (KA w wr ub cb (atP A (k + 1))) := by
            have := HK2.out
            rw [hjN, ← HI.out.2, List.take_length] at this
            exact this
          clear HK2
          go_wp2_with fail
          go_roundw
          case rel => exact ⟨k + 1, by omega, by go_num, HK3.out⟩
          case measure => simp only [civ]; omega
    · have hkn : k = n.toNat := by omega
      subst hkn
      obtain ⟨q1, bu, bc, q2, q3⟩ := HK.out
      obtain ⟨f, hf⟩ : ∃ f, f = atP A n.toNat := ⟨_, rfl⟩
      have HAt : Hid (f = atP A n.toNat) := hf
      rw [← hf] at bc
      have d0 : wr.cell? ⟨cb, 0, none⟩ = some (.int .i64 (f 0)) := bc.cell 0
      have d1 : wr.cell? ⟨cb, 1, none⟩ = some (.int .i64 (f 1)) := bc.cell 1
      have d2 : wr.cell? ⟨cb, 2, none⟩ = some (.int .i64 (f 2)) := bc.cell 2
      have d3 : wr.cell? ⟨cb, 3, none⟩ = some (.int .i64 (f 3)) := bc.cell 3
      have d4 : wr.cell? ⟨cb, 4, none⟩ = some (.int .i64 (f 4)) := bc.cell 4
      have d5 : wr.cell? ⟨cb, 5, none⟩ = some (.int .i64 (f 5)) := bc.cell 5
      have g0 : wr.cell? ⟨ub, 0, none⟩ = some (.int .i64 0) := bu.cell 0
      have g1 : wr.cell? ⟨ub, 1, none⟩ = some (.int .i64 0) := bu.cell 1
      have g2 : wr.cell? ⟨ub, 2, none⟩ = some (.int .i64 0) := bu.cell 2
      have g3 : wr.cell? ⟨ub, 3, none⟩ = some (.int .i64 0) := bu.cell 3
      have g4 : wr.cell? ⟨ub, 4, none⟩ = some (.int .i64 0) := bu.cell 4
      have g5 : wr.cell? ⟨ub, 5, none⟩ = some (.int .i64 0) := bu.cell 5
      have f0 : wr.frozen? ⟨ub, 0, none⟩ = false := bu.frozen 0
      have f1 : wr.frozen? ⟨ub, 1, none⟩ = false := bu.frozen 1
      have f2 : wr.frozen? ⟨ub, 2, none⟩ = false := bu.frozen 2
      have f3 : wr.frozen? ⟨ub, 3, none⟩ = false := bu.frozen 3
      have f4 : wr.frozen? ⟨ub, 4, none⟩ = false := bu.frozen 4
      have f5 : wr.frozen? ⟨ub, 5, none⟩ = false := bu.frozen 5
      have hb6 : Below w.heap.size w (six wr ub (.int .i64 (f 0)) (.int .i64 (f 1)) (.int .i64 (f 2)) (.int .i64 (f 3)) (.int .i64 (f 4)) (.int .i64 (f 5))) := q1.grown (six_grown wr ub _ _ _ _ _ _) q1.size (fun k e => by cases e; exact q3.1)
      have bs := six_box bu (.int .i64 (f 0)) (.int .i64 (f 1)) (.int .i64 (f 2)) (.int .i64 (f 3)) (.int .i64 (f 4)) (.int .i64 (f 5))
      have HB : Hid (Below w.heap.size w (six wr ub (.int .i64 (f 0)) (.int .i64 (f 1)) (.int .i64 (f 2)) (.int .i64 (f 3)) (.int .i64 (f 4)) (.int .i64 (f 5))) ∧ Box (six wr ub (.int .i64 (f 0)) (.int .i64 (f 1)) (.int .i64 (f 2)) (.int .i64 (f 3)) (.int .i64 (f 4)) (.int .i64 (f 5))) ub (sixOf f) 24) := ⟨hb6, bs⟩
      clear hb6 bs q1 bu bc q2 q3 HK hf HF HI
      go_wp2_with fail
      all_goals rw [show (((((wr.setCell ⟨ub, 0, none⟩ (.int .i64 (f 0))).setCell ⟨ub, 1, none⟩ (.int .i64 (f 1))).setCell ⟨ub, 2, none⟩ (.int .i64 (f 2))).setCell ⟨ub, 3, none⟩ (.int .i64 (f 3))).setCell ⟨ub, 4, none⟩ (.int .i64 (f 4))).setCell ⟨ub, 5, none⟩ (.int .i64 (f 5)) = six wr ub (.int .i64 (f 0)) (.int .i64 (f 1)) (.int .i64 (f 2)) (.int .i64 (f 3)) (.int .i64 (f 4)) (.int .i64 (f 5)) from rfl]
      all_goals
        obtain ⟨wf, hwf⟩ : ∃ wf, wf = six wr ub (.int .i64 (f 0)) (.int .i64 (f 1)) (.int .i64 (f 2)) (.int .i64 (f 3)) (.int .i64 (f 4)) (.int .i64 (f 5)) := ⟨_, rfl⟩
        rw [← hwf] at HB ⊢
        clear hwf d0 d1 d2 d3 d4 d5 g0 g1 g2 g3 g4 g5 f0 f1 f2 f3 f4 f5
        have HFF : Hid (Below w.heap.size w wf ∧ Below w.heap.size w wf.drew) := ⟨HB.out.1, ⟨HB.out.1.os, HB.out.1.tape, HB.out.1.output, HB.out.1.size, HB.out.1.block⟩⟩
        refine bodyPost_ret (v := .agg (sixOf f)) ?_ rfl ⟨by rw [HAt.out], ?_⟩
        · exact res6 rfl HB.out.2
        · first
            | exact HFF.out.1
            | exact HFF.out.2
end Go.Proofs.Ytafiopjgegmfoaa.T
