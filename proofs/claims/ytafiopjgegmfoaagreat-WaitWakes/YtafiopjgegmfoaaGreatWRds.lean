/-
  What a transaction has read, as a watch keeps it.
-/
import Derived.Test.YtafiopjgegmfoaaGreatWChg
namespace Go.Proofs.YtafiopjgegmfoaaGreat.W
open Go.RowKit Go.Maps Go.Proofs.YtafiopjgegmfoaaGreat Go.Proofs.YtafiopjgegmfoaaGreat.C Go.Proofs.YtafiopjgegmfoaaGreat.T
def rdp (X : TX) (i : Int) : Int × Int := (i, (gt X.S.R i).getD 0)
def rdOf (X : TX) : Rds := (srt (kys X.S.R)).map (rdp X)
theorem rdOf_len (X : TX) : (rdOf X).length = X.S.R.length := by unfold rdOf; rw [List.length_map, srt_len, kys_len]
section
variable {u u' : World} {B g m : Nat} {X : TX} {F : Nat → Prop}
theorem isBegun_at (h : IsX u B g m X F) : Calls Tryz.prog 30 #[ptr g] u fun r u' => r = .returned (.bool true) ∧ u' = u := by
  have c := status_at h
  have hs := h.ok.st
  generalize X.st = st at *
  clear h
  unfold ptr at *
  rcases hs with rfl | rfl | rfl | rfl
  all_goals
    go_enter Tryz.func30, Tryz.ntmps30
    go_wp2_with (go_at_call 39; refine c.mono ?_; rintro e w' ⟨rfl, rfl⟩)
    go_ret
    simp
theorem isBegun_no {p : Option Addr} (h : NoT u p) : Calls Tryz.prog 30 #[.pointer p] u fun r u' => r = .returned (.bool false) ∧ u' = u := by
  have c := status_no h
  clear h
  go_enter Tryz.func30, Tryz.ntmps30
  go_wp2_with (go_at_call 39; refine c.mono ?_; rintro e w' ⟨rfl, rfl⟩)
  go_ret
  simp
theorem txReads_at (h : IsX u B g m X F) : Calls Tryz.prog 55 #[ptr g] u fun r u' => ∃ v, r = .returned v ∧ u'.ownsRow u.heap.size 3 1 v X.S.R.length (zcs (srt (kys X.S.R))) ∧ Below u.heap.size u u' := by
  obtain ⟨s, lv, P, Q, h⟩ := h
  have c := T.isMade_at h.box
  have c4 : u.cell? ⟨g, 4, none⟩ = some (ptr s) := h.box.cell 4
  have cr := reads_at h.sets
  clear h
  unfold ptr at *
  go_enter Tryz.func55, Tryz.ntmps55
  go_wp2_with (first | (go_at_call 53; refine c.mono ?_; rintro e w' ⟨rfl, rfl⟩) | (go_at_call 69; refine cr.mono ?_; rintro e w2 ⟨v', rfl, k1, k2⟩))
  go_ret
  exact ⟨_, rfl, k1, k2⟩
theorem txSeen_at (h : IsX u B g m X F) (i : Int) (hi : (Lit.int .i64 i).wf = true) : Calls Tryz.prog 56 #[ptr g, .int .i64 i] u fun r u' => r = .returned (.tuple #[.int .i64 ((gt X.S.R i).getD 0), .bool (gt X.S.R i).isSome]) ∧ u' = u := by
  obtain ⟨s, lv, P, Q, h⟩ := h
  have c := T.isMade_at h.box
  have c4 : u.cell? ⟨g, 4, none⟩ = some (ptr s) := h.box.cell 4
  have cr := seen_at h.sets i hi
  clear h
  generalize (gt X.S.R i).getD 0 = x at *
  generalize (gt X.S.R i).isSome = y at *
  unfold ptr at *
  go_enter Tryz.func56, Tryz.ntmps56
  go_wp2_with (first | (go_at_call 53; refine c.mono ?_; rintro e w' ⟨rfl, rfl⟩) | (go_at_call 64; refine cr.mono ?_; rintro e w2 ⟨rfl, rfl⟩))
  go_ret2
  simp
theorem info93 : (Tryz.prog.info? 93).map (fun i => (i.zero, i.size, i.bytes)) = some (some (.agg #[.int .i64 0, .int .i64 0]), 2, 16) := by kernel_rfl
theorem two_cell {w : World} {G : Nat} {a b : Value} {t : TypeId} (h : Box w G #[a, b] t) : ∀ (j : Nat) (u : Value), [a, b][j]? = some u → w.cell? ((⟨G, 0, none⟩ : Addr).add j) = some u := by
  intro j u hj
  match j, hj with
  | 0, hj => simp at hj; subst hj; rw [Addr.add_lit]; exact h.cell 0
  | 1, hj => simp at hj; subst hj; rw [Addr.add_lit]; exact h.cell 1
theorem IsX.reads (h : IsX u B g m X F) : X.S.R.length ≤ 256 ∧ ∀ k ∈ kys X.S.R, 0 ≤ k ∧ k < 1024 := by
  obtain ⟨s, lv, P, Q, h⟩ := h
  obtain ⟨rb, wb, v, L, h⟩ := h.sets
  exact ⟨h.rd.gd.le, h.rd.gd.cl⟩
set_option maxRecDepth 100000 in
set_option maxHeartbeats 2000000 in
theorem readsOf_at (h : IsX u B g m X F) : Calls Tryz.prog 32 #[ptr g] u fun r u' => ∃ v, r = .returned v ∧ u'.ownsRow u.heap.size 93 2 v (rdOf X).length (rcs (rdOf X)) ∧ Below u.heap.size u u' := by
  obtain ⟨i0, hi0, hz0, hz1, hz2⟩ := info_parts info93
  obtain ⟨hle, hcl⟩ := IsX.reads h
  have cr := txReads_at h
  have H : Hid (∀ w', Below u.heap.size u w' → ∀ i, (Lit.int .i64 i).wf = true → Calls Tryz.prog 56 #[ptr g, .int .i64 i] w' fun r u' => r = .returned (.tuple #[.int .i64 ((gt X.S.R i).getD 0), .bool (gt X.S.R i).isSome]) ∧ u' = w') := fun w' hb i hi => txSeen_at (h.below hb) i hi
  obtain ⟨L, hL⟩ : ∃ L, L = srt (kys X.S.R) := ⟨_, rfl⟩
  have HC : Hid (∀ x ∈ L, (Lit.int .i64 x).wf = true) := fun x hx => by
    rw [hL, srt_mem] at hx
    exact cell_wf (hcl x hx)
  have hLn : L.length = X.S.R.length := by rw [hL, srt_len, kys_len]
  have hR : rdOf X = L.map (rdp X) := by rw [hL]; rfl
  rw [← hL, ← hLn] at cr
  rw [hR]
  obtain ⟨n, hn⟩ : ∃ n, n = L.length := ⟨_, rfl⟩
  have HN : Hid (n = L.length) := hn
  rw [← hLn, ← hn] at hle
  rw [← hn] at cr
  obtain ⟨R, hR0⟩ : ∃ R, R = L.map (rdp X) := ⟨_, rfl⟩
  rw [← hR0]
  have HL : Hid (R.length = n) := by
    show R.length = n
    rw [hR0, List.length_map]; omega
  have HT : Hid (∀ k x, L[k]? = some x → R.take (k + 1) = R.take k ++ [(x, (gt X.S.R x).getD 0)]) := fun k x hx => by
    obtain ⟨hl, rfl⟩ := List.getElem?_eq_some_iff.1 hx
    have hl2 : k < R.length := by rw [hR0, List.length_map]; exact hl
    rw [List.take_succ_eq_append_getElem hl2]
    have e : R[k] = (L[k], (gt X.S.R L[k]).getD 0) := by simp [hR0, rdp]
    rw [e]
  have HTn : Hid (R.take n = R) := List.take_of_length_le (by have := HL.out; omega)
  clear h hL hLn hR hn hcl hR0
  unfold ptr at *
  go_enter Tryz.func32, Tryz.ntmps32
  go_wp2_with fail
  refine Calls.mono cr ?_
  rintro e u1 ⟨v, rfl, hr, hb1⟩
  obtain ⟨a, cap, rfl⟩ := ownsRow_slice hr
  have HR : Hid (u1.ownsRow u.heap.size 3 1 (.slice a n cap) n (zcs L)) := hr
  have HB1 : Hid (Below u.heap.size u u1) := hb1
  clear hr hb1 cr
  go_wp2_with fail
  go_loopw [3, 11] (fun v i wr => ∃ k : Nat, k ≤ n ∧ i = .int .i64 (k : Int) ∧ wr.ownsRow u1.heap.size 93 2 v k (rcs (R.take k)) ∧ Below u1.heap.size u1 wr) (fun _ i _ => n - (civ i).toNat)
  case atStart => exact ⟨0, Nat.zero_le _, rfl, World.ownsRow_nil _ _ _ _, Below.refl _ _⟩
  case round =>
    obtain ⟨k, hk, rfl, hown, hbl⟩ := hrel
    have HB : Hid (Below u1.heap.size u1 wr) := hbl
    have hl := hbl.size
    by_cases hlt : k < n
    · have hki : (k : Int) < (n : Int) := by omega
      obtain ⟨x, hx⟩ : ∃ x, L[k]? = some x := ⟨_, List.getElem?_eq_getElem (by have := HN.out; omega)⟩
      have cS := H.out wr (HB1.out.trans (hbl.mono HB1.out.size)) x (HC.out x (List.mem_of_getElem? hx))
      have hrow := row_stay (u' := wr) HR.out (fun y hy => hbl.block y (HR.out.lt y hy).2)
      obtain ⟨g', cap', e, cx⟩ := ownsRow_cell hrow k hlt
      rw [zcs_get hx] at cx
      injection e with e1 e2 e3
      subst e1 e3
      have HTk : Hid (R.take (k + 1) = R.take k ++ [(x, (gt X.S.R x).getD 0)]) := HT.out k x hx
      obtain ⟨kv, hkv⟩ : ∃ kv, kv = (gt X.S.R x).getD 0 := ⟨_, rfl⟩
      rw [← hkv] at cS HTk
      generalize (gt X.S.R x).isSome = z at cS
      have hx1 := Box.new wr #[.int .i64 x, .int .i64 kv] 93
      have own1 := hown.alloc (.cells #[.int .i64 x, .int .i64 kv] 93)
      clear hx hrow hkv hown hbl
      go_wp2_with fail
      refine cS.mono ?_
      rintro e w' ⟨rfl, hw'⟩
      subst w'
      clear cS
      go_wp2_with (at_builtin; refine wpList_append_own _ rfl _ _ 65 rfl u1.heap.size 93 i0 (.agg #[.int .i64 0, .int .i64 0]) 2 16 Tryz.underlying65 hi0 hz0 hz1 hz2 rfl (by decide) _ k _ rfl own1 ⟨wr.heap.size, 0, none⟩ 1 1 [.int .i64 x, .int .i64 kv] rfl rfl (two_cell hx1) ?c2 ?c3 ?c4 ?c5 ?_)
      case c2 => intro u hu; simp at hu; rcases hu with rfl | rfl <;> rfl
      case c3 => unfold maxLen; omega
      case c4 => omega
      case c5 => simp; omega
      intro v' w4 hown4 hgrow _
      have HO : Hid (w4.ownsRow u1.heap.size 93 2 v' (k + 1) (rcs (R.take (k + 1)))) := by
        show w4.ownsRow u1.heap.size 93 2 v' (k + 1) (rcs (R.take (k + 1)))
        rw [HTk.out, rcs_snoc]
        exact hown4
      have HB4 : Hid (Below u1.heap.size u1 w4) := (HB.out.alloc hl _).grown hgrow (by simp; omega) (fun j hj => (own1.lt j hj).1)
      clear hown4 hgrow own1 hx1
      go_wp2
      go_roundw
      case rel => exact ⟨k + 1, by omega, by go_num, HO.out, HB4.out⟩
      case measure => simp [civ]; omega
    · obtain rfl : k = n := by omega
      have hown' := hown
      rw [HTn.out] at hown'
      have HF : Hid (wr.ownsRow u1.heap.size 93 2 _ k (rcs R)) := hown'
      have HLn : Hid (R.length = k) := HL
      clear hown hown' hbl
      go_wp2_with fail
      go_ret
      refine ⟨_, rfl, ?_, HB1.out.trans (HB.out.mono HB1.out.size)⟩
      rw [HLn.out]
      refine ⟨HF.out.1, ?_⟩
      rcases HF.out.2 with q | ⟨g, cp, cu, e1, q1, q⟩
      · exact .inl q
      · exact .inr ⟨g, cp, cu, e1, Nat.le_trans HB1.out.size q1, q⟩
end
end Go.Proofs.YtafiopjgegmfoaaGreat.W
