/-
  gather: the waiters of whose cells a closure says so, rising; Parked.
-/
import Derived.Test.YtafiopjgegmfoaaGreatWGo
import Derived.Test.YtafiopjgegmfoaaGreatWSort
import Derived.Test.YtafiopjgegmfoaaGreatRising
namespace Go.Proofs.YtafiopjgegmfoaaGreat.W
open Go.RowKit Go.Maps Go.Proofs.YtafiopjgegmfoaaGreat Go.Proofs.YtafiopjgegmfoaaGreat.C Go.Proofs.YtafiopjgegmfoaaGreat.T
/-- those of whose reads pr says so -/
def sel (pr : Rds → Bool) (P : Wts) (x : Int) : Bool := match gt P x with | some p => pr p.2 | none => false
def gath (pr : Rds → Bool) (P : Wts) : List Int := srt ((kys P).filter (sel pr P))
section
variable {u u' : World} {B wb m : Nat} {P : Wts} {H : Nat → Prop}
theorem gath_len (pr : Rds → Bool) (P : Wts) : (gath pr P).length ≤ P.length := by
  unfold gath
  rw [srt_len, ← kys_len P]
  exact List.length_filter_le _ _
set_option maxRecDepth 100000 in
set_option maxHeartbeats 4000000 in
theorem gather_at (h : IsW u B wb m P H) (f : Nat) (caps : Array Value) (pr : Rds → Bool) (hin : ∀ args w, (callFunc f args).run Tryz.prog w = .ok (.enter f args) w)
    (hf : ∀ p ∈ P, ∀ u', Below u.heap.size u u' → Calls Tryz.prog f (#[p.2.1] ++ caps) u' fun r u'' => r = .returned (.bool (pr p.2.2)) ∧ Below u'.heap.size u' u'') :
    Calls Tryz.prog 33 #[ptr wb, .func (.func f) #[] caps] u fun r u' => ∃ v, r = .returned v ∧ u'.ownsRow u.heap.size 3 1 v (gath pr P).length (zcs (gath pr P)) ∧ Below u.heap.size u u' := by
  obtain ⟨i0, hi0, hz0, hz1, hz2⟩ := info_parts infoI
  obtain ⟨mb, bx, hmp, hmb⟩ := h.box
  have cM := made_at bx
  have c2 : u.cell? ⟨wb, 2, none⟩ = some (.map (some mb)) := bx.cell 2
  obtain ⟨D, hown, hnd, hmem, hat⟩ := mapI_keys hmp
  have hperm : ∀ ss : List Int, ss.Perm (intKeys D) → ss.Perm (kys P) := fun ss hss => hss.trans (perm_same hnd h.nd (fun x => (hmem x).trans (by rw [gt_some_iff]; simp)))
  have hsz : Maps.size D ≤ 64 := by
    have hs : Maps.size D = (intKeys D).length := by
      obtain ⟨es, cl, hb, F, hs, rfl⟩ := hown
      simp [Maps.size, intKeys]
    rw [hs, (hperm _ (List.Perm.refl _)).length_eq, kys_len]
    exact h.le
  have hbl := hown.lt
  have HP : Hid (∀ ss : List Int, ss.Perm (intKeys D) → srt (ss.filter (sel pr P)) = gath pr P) := fun ss hss => srt_perm ((hperm ss hss).filter _)
  have HF : Hid (∀ x c, (Lit.int .i64 x).wf = true → (∀ z, D.atKey (.int .i64 x) z = .held c) → ∃ a n cap, c = .slice a n cap ∧ ∀ u', Below u.heap.size u u' → Calls Tryz.prog f (#[c] ++ caps) u' fun r u'' => r = .returned (.bool (sel pr P x)) ∧ Below u'.heap.size u' u'') := fun x c hw hz => by
    have hm := hat x c hw hz
    cases hg : gt P x with
    | none => rw [hg] at hm; cases hm
    | some p =>
      rw [hg] at hm
      injection hm with hm
      subst hm
      have hp := mem_of_gt hg
      obtain ⟨a, cap, e⟩ := ownsRow_slice (h.rows _ hp).1
      refine ⟨a, _, cap, e, fun u' hb => ?_⟩
      have e2 : sel pr P x = pr p.2 := by unfold sel; rw [hg]
      rw [e2]
      exact hf _ hp u' hb
  obtain ⟨nL, hnL⟩ : ∃ nL, nL = P.length := ⟨_, rfl⟩
  rw [← hnL] at hown
  clear h bx hmp hf hnd hmem hat hperm hnL
  have hlen : (gath pr P).length = (gath pr P).length := rfl
  generalize gath pr P = gL at *
  clear hlen
  unfold ptr at *
  go_enter Tryz.func33, Tryz.ntmps33
  go_wp2_with fail
  refine Calls.mono cM ?_
  rintro e wx ⟨rfl, hwx⟩
  subst wx
  clear cM
  go_wp2_with (first
    | (at_range; refine wpList_range_own _ rfl _ 30 rfl 3 65 keyed3 Tryz.underlying30 _ mb _ _ rfl hown ?_; intro w0 hrg0 hg0 hs0)
    | go_in)
  go_frame
  go_loopw [5] (fun v wr => ∃ (left : Lit → Bool) (cnt : Nat) (ss : List Int), wr.ranges Tryz.prog 3 rV mb u.heap.size nL D left cnt ∧ ss.length + cnt ≤ Maps.size D ∧
      wr.ownsRow u.heap.size 3 1 v (ss.filter (sel pr P)).length (zcs (ss.filter (sel pr P))) ∧ CollectedI D left ss ∧ Below u.heap.size u wr)
    (fun _ wr => wr.rangeLeft mb u.heap.size)
  case atStart =>
    exact ⟨_, _, [], hrg0, by simp, ⟨rfl, .inl ⟨rfl, rfl⟩⟩, CollectedI.start D, (Below.refl _ _).grown hg0 (Nat.le_refl _) (fun j hj => by cases hj)⟩
  case round =>
    obtain ⟨left, cnt, ss, hrg, hcs, hrow, hC, hnx⟩ := hrel
    have hfl : (ss.filter (sel pr P)).length ≤ ss.length := List.length_filter_le _ _
    obtain ⟨a, cap, rfl⟩ := ownsRow_slice hrow
    go_wp2_with (first
      | (at_next; refine wpList_next_ranges _ rfl _ rfl 3 keyed3 rV encZ (fun v : Value => v) (fun key kl hk => by obtain ⟨x, hx, _⟩ := Maps.keyOf_i64 Tryz.underlying3 hk; exact ⟨x, hx⟩) (fun v y _ => ⟨v, rfl⟩) mb u.heap.size nL _ _ _ rfl hrg ?_ ?_)
      | go_in)
    · intro hc0 hl0
      have HS : Hid (srt (ss.filter (sel pr P)) = gL) := HP.out ss (hC.perm hown keyed3 Tryz.underlying3 hl0)
      have hc := sort_own _ hrow (by omega)
      rw [HS.out] at hc
      have HN : Hid (Below u.heap.size u wr) := hnx
      have HR : Hid (∀ k, (Value.slice a (ss.filter (sel pr P)).length cap).ownBlock = some k → u.heap.size ≤ k) := fun k hk => (hrow.lt k hk).1
      generalize (ss.filter (sel pr P)).length = q at *
      clear hrg hC hl0 hc0 hrow hnx hcs HP HF hown hsz hrg0 hg0 hs0 hbl HS
      go_wp2_with (go_at_call 57; refine hc.mono ?_; rintro e w' ⟨rfl, hrow', hg'⟩)
      go_ret
      exact ⟨_, rfl, hrow', HN.out.grown hg' HN.out.size HR.out⟩
    · intro x c kl yd yp w2 cnt2 hkey hlk hv hat hrg2 hlt hg2 hs2 hen
      obtain ⟨x', ex, rfl, hwx⟩ := Maps.keyOf_i64 Tryz.underlying3 hkey
      obtain rfl : x = x' := encZ_inj ex
      have hyd : yd = .held c := by unfold rV at hv; injection hv with hv; injection hv with hv; rw [← hv]
      obtain ⟨ca, cn, cc, rfl, cf⟩ := HF.out x c hwx (fun z => by rw [hat z, hyd])
      have hne : (Value.slice a (ss.filter (sel pr P)).length cap).ownBlock ≠ some u.heap.size := (row_ne_iter hrow hrg).symm
      have hrow2 := ownsRow_grown hrow hg2 (fun k hk e => hne (by rw [hk, ← e]))
      have hb2 : Below u.heap.size u w2 := hnx.grown hg2 hnx.size (fun j hj => by cases hj; exact Nat.le_refl _)
      have cf2 := cf w2 hb2
      clear hs2 cf
      unfold encZ at hen
      go_wp2_with fail
      refine cf2.mono ?_
      rintro e w3 ⟨rfl, hb3⟩
      have g3 : w2.grownBy w3 none := ⟨hb3.os, hb3.tape, hb3.output, hb3.size, fun k hk _ => hb3.block k hk⟩
      have hrg3 := hrg2.kept g3 (by simp) (by simp)
      have hrow3 := row_stay (u' := w3) hrow2 (fun k hk => by obtain ⟨cs, hc⟩ := ownsRow_box hrow2 k hk; exact hb3.block k (Box.lt hc))
      have hb4 : Below u.heap.size u w3 := hb2.trans (hb3.mono hb2.size)
      have hC2 := hC.step hlk hat
      clear cf2 hen hrg2 hrow2 hb2 hb3 g3 hg2 hnx hrow
      cases hp : sel pr P x with
      | false =>
        have HFil : Hid ((ss ++ [x]).filter (sel pr P) = ss.filter (sel pr P)) := by
          show (ss ++ [x]).filter (sel pr P) = ss.filter (sel pr P)
          rw [List.filter_append]; simp [hp]
        go_wp2_with fail
        go_roundw
        case rel =>
          exact ⟨_, cnt2, ss ++ [x], hrg3, by simp; omega, by rw [HFil.out]; exact hrow3, hC2, hb4⟩
        case measure => rw [hrg3.left_eq, hrg.left_eq]; exact hlt
      | true =>
        have HFil : Hid ((ss ++ [x]).filter (sel pr P) = ss.filter (sel pr P) ++ [x]) := by
          show (ss ++ [x]).filter (sel pr P) = ss.filter (sel pr P) ++ [x]
          rw [List.filter_append]; simp [hp]
        go_wp2_with (first
          | (at_builtin; refine wpList_append_own _ rfl _ _ 42 rfl u.heap.size 3 i0 (.int .i64 0) 1 8 Tryz.underlying42 hi0 hz0 hz1 hz2 rfl (by decide) _ _ _ rfl (hrow3.alloc _) ⟨w3.heap.size, 0, none⟩ 1 1 [.int .i64 x] rfl rfl (cell_one_new _ _ _) (by simp [Value.oneCell']) (by unfold maxLen; omega) (by omega) (by have := hb4.size; simp; omega) ?_; intro v' w4 hown' hg3 hs3; go_frame)
          | go_in)
        have hrg4 := (hrg3.alloc _).kept hg3 (row_ne_low hrow3 hbl) (row_ne_iter hrow3 hrg3)
        go_roundw
        case rel =>
          refine ⟨_, cnt2, ss ++ [x], hrg4, by simp; omega, by rw [HFil.out]; simpa [zcs, encI] using hown', hC2, ?_⟩
          exact (hb4.alloc hb4.size _).grown hg3 (by have := hb4.size; simp; omega) (fun j hj => (hrow3.lt j hj).1)
        case measure => rw [hrg4.left_eq, hrg.left_eq]; exact hlt
end
end Go.Proofs.YtafiopjgegmfoaaGreat.W
