/-
  rising, Reads, Writes: the keys of a map, in order.
-/
import Derived.Test.YtlbjalodjcajfaaGreatSortC
import Derived.Test.YtlbjalodjcajfaaGreatSwr
import Derived.Maps.RangeWalk
import Derived.Sort.OwnSorted
namespace Go.Proofs.YtlbjalodjcajfaaGreat
open Go.RowKit Go.Sort Go.Maps
theorem perm_same {a b : List Int} (ha : a.Nodup) (hb : b.Nodup) (h : ∀ x, x ∈ a ↔ x ∈ b) : a.Perm b := by
  induction a generalizing b with
  | nil =>
    cases b with
    | nil => exact .nil
    | cons x b => exact absurd ((h x).2 (List.mem_cons_self ..)) (by simp)
  | cons x a ih =>
    have hx : x ∈ b := (h x).1 (List.mem_cons_self ..)
    have hn := List.nodup_cons.1 ha
    refine .trans (.cons x (ih hn.2 (hb.erase x) (fun y => ?_))) (List.perm_cons_erase hx).symm
    rw [List.Nodup.mem_erase_iff hb]
    constructor
    · intro hy
      exact ⟨fun e => hn.1 (e ▸ hy), (h y).1 (List.mem_cons_of_mem _ hy)⟩
    · rintro ⟨h1, h2⟩
      rcases List.mem_cons.1 ((h y).2 h2) with e | e
      · exact absurd e h1
      · exact e
theorem srt_perm {a b : List Int} (h : a.Perm b) : srt a = srt b := mergeSort_of_perm_i h
theorem wide_row_ne {w : World} {B n : Nat} {e : TypeId} {v : Value} {xs : List Value} (h : w.ownsRow B e 1 v n xs) {b : Nat} {es : Array MapEntry} {cl : Nat} (hb : w.heap[b]? = some (.map es cl)) : v.ownBlock ≠ some b := fun e' => by
  obtain ⟨cs, hc⟩ := ownsRow_box h b e'
  unfold Box at hc
  rw [hb] at hc
  injection hc with hc
  cases hc

set_option maxRecDepth 100000 in
set_option maxHeartbeats 2000000 in
theorem risingR_at {α : Type} {enc : α → Value} {w : World} {b : Nat} {L : List (Int × α)} (h : MapL enc w b L) :
    Calls Tryz.prog 72 #[.map (some b)] w fun r w' => ∃ v, r = .returned v ∧ w'.ownsRow w.heap.size 3 1 v L.length (zcs (srt (kys L))) ∧ Below w.heap.size w w' := by
  obtain ⟨i0, hi0, hz0, hz1, hz2⟩ := info_parts infoI
  obtain ⟨D, hown, hnd, hmem⟩ := h.mp.keys
  have hsz : Maps.size D ≤ 256 := by
    have hs : Maps.size D = (intKeys D).length := by
      obtain ⟨es, cl, hb, F, hs, rfl⟩ := hown
      simp [Maps.size, intKeys]
    rw [hs]
    have := nodup_sub _ (kys L) hnd (fun x hx => (MapL.keysOf x).2 ((hmem x).1 hx))
    rw [kys_len] at this
    have := h.gd.le
    omega
  have HP : Hid (∀ ss : List Int, ss.Perm (intKeys D) → ss.length = L.length ∧ srt ss = srt (kys L) ∧ ∀ x ∈ ss, 0 ≤ x ∧ x < 1024) := fun ss hss => by
    have hp : ss.Perm (kys L) := hss.trans (perm_same hnd h.gd.nd (fun x => (hmem x).trans (MapL.keysOf x).symm))
    exact ⟨by rw [hp.length_eq, kys_len], srt_perm hp, fun x hx => h.gd.cl x (hp.mem_iff.1 hx)⟩
  have hbl := hown.lt
  clear h hnd hmem
  generalize L.length = nL at *
  generalize srt (kys L) = sL at *
  go_enter Tryz.func72, Tryz.ntmps72
  go_wp2_with (first
    | (at_range; refine wpList_range_own _ rfl _ 89 rfl 3 2 keyed3 Tryz.underlying89 _ b _ _ rfl hown ?_; intro w0 hrg0 hg0 hs0)
    | go_in)
  go_frame
  go_loopw [3] (fun v wr => ∃ (left : Lit → Bool) (cnt : Nat) (ss : List Int), wr.ranges Tryz.prog 3 rV b w.heap.size nL D left cnt ∧ ss.length + cnt ≤ Maps.size D ∧
      wr.ownsRow w.heap.size 3 1 v ss.length (zcs ss) ∧ CollectedI D left ss ∧ Below w.heap.size w wr)
    (fun _ wr => wr.rangeLeft b w.heap.size)
  case atStart =>
    exact ⟨_, _, [], hrg0, by simp, ⟨rfl, .inl ⟨rfl, rfl⟩⟩, CollectedI.start D, (Below.refl _ _).grown hg0 (Nat.le_refl _) (fun j hj => by cases hj)⟩
  case round =>
    obtain ⟨left, cnt, ss, hrg, hcs, hrow, hC, hnx⟩ := hrel
    obtain ⟨a, cap, rfl⟩ := ownsRow_slice hrow
    go_wp2_with (first
      | (at_next; refine wpList_next_ranges _ rfl _ rfl 3 keyed3 rV encZ (fun v : Value => v) (fun key kl hk => by obtain ⟨x, hx, _⟩ := Maps.keyOf_i64 Tryz.underlying3 hk; exact ⟨x, hx⟩) (fun v y _ => ⟨v, rfl⟩) b w.heap.size nL _ _ _ rfl hrg ?_ ?_)
      | go_in)
    · intro hc0 hl0
      have H3 : Hid (ss.length = nL ∧ srt ss = sL ∧ ∀ x ∈ ss, 0 ≤ x ∧ x < 1024) := HP.out ss (hC.perm hown keyed3 Tryz.underlying3 hl0)
      have hc := sortC_at 82 eg49 cmpReads49 hrow H3.out.2.2 (by omega)
      have HB : Hid (∀ w', w'.ownsRow w.heap.size 3 1 (.slice a ss.length cap) ss.length (zcs (srt ss)) → wr.grownBy w' (Value.slice a ss.length cap).ownBlock → w'.ownsRow w.heap.size 3 1 (.slice a ss.length cap) nL (zcs sL) ∧ Below w.heap.size w w') := fun w' k1 k2 => by
        refine ⟨?_, hnx.grown k2 hnx.size (fun j hj => (hrow.lt j hj).1)⟩
        rw [← H3.out.1, ← H3.out.2.1]
        exact k1
      generalize ss.length = m at *
      clear hrg hC hl0 hc0 hrow hnx hcs H3 HP hown hsz hrg0 hg0 hs0 hbl
      go_wp2_with (go_at_call 80; refine hc.mono ?_; rintro e w' ⟨rfl, hrow', hg'⟩)
      go_ret
      exact ⟨_, rfl, HB.out _ hrow' hg'⟩
    · intro x c kl yd yp w2 cnt2 hkey hlk hv hat hrg2 hlt hg2 hs2 hen
      obtain ⟨x', ex, rfl, hwx⟩ := Maps.keyOf_i64 Tryz.underlying3 hkey
      obtain rfl : x = x' := encZ_inj ex
      have hne : (Value.slice a ss.length cap).ownBlock ≠ some w.heap.size := (row_ne_iter hrow hrg).symm
      have hrow2 := ownsRow_grown hrow hg2 (fun k hk e => hne (by rw [hk, ← e]))
      clear hs2
      unfold encZ at hen
      go_wp2_with (first
        | (at_builtin; refine wpList_append_own _ rfl _ _ 102 rfl w.heap.size 3 i0 (.int .i64 0) 1 8 Tryz.underlying102 hi0 hz0 hz1 hz2 rfl (by decide) _ _ _ rfl (hrow2.alloc _) ⟨w2.heap.size, 0, none⟩ 1 1 [.int .i64 x] rfl rfl (cell_one_new _ _ _) (by simp [Value.oneCell']) (by unfold maxLen; omega) (by omega) (by have := hnx.size; have := hg2.size; simp; omega) ?_; intro v' w3 hown' hg3 hnil3; go_frame)
        | go_in)
      have hrg3 := (hrg2.alloc _).kept hg3 (row_ne_low hrow2 hbl) (row_ne_iter hrow2 hrg2)
      go_roundw
      case rel =>
        refine ⟨_, cnt2, ss ++ [x], hrg3, by simp; omega, by simpa [zcs, encI] using hown', hC.step hlk hat, ?_⟩
        exact ((hnx.grown hg2 hnx.size (fun j hj => by cases hj; exact Nat.le_refl _)).alloc (by have := hnx.size; have := hg2.size; omega) _).grown hg3 (by have := hnx.size; have := hg2.size; simp; omega) (fun j hj => (hrow2.lt j hj).1)
      case measure => rw [hrg3.left_eq, hrg.left_eq]; exact hlt

theorem reads_at {w : World} {B g : Nat} {S : SS En} {F : Nat → Prop} (h : IsS ag 93 91 w B g S F) :
    Calls Tryz.prog 53 #[ptr g] w fun r w' => ∃ v, r = .returned v ∧ w'.ownsRow w.heap.size 3 1 v S.R.length (zcs (srt (kys S.R))) ∧ Below w.heap.size w w' := by
  obtain ⟨rb, wb, v, X, h⟩ := h
  have c := madeS h.box
  have c1 : w.cell? ⟨g, 1, none⟩ = some (mp rb) := h.box.cell 1
  have cr := risingR_at h.rd
  clear h
  unfold ptr mp at *
  go_enter Tryz.func53, Tryz.ntmps53
  go_wp2_with (first | (go_at_call 68; refine c.mono ?_; rintro e w' ⟨rfl, rfl⟩) | (go_at_call 72; refine cr.mono ?_; rintro e w2 ⟨v', rfl, k1, k2⟩))
  go_ret
  exact ⟨_, rfl, k1, k2⟩

set_option maxRecDepth 100000 in
set_option maxHeartbeats 2000000 in
theorem risingW_at {α : Type} {enc : α → Value} {w : World} {b : Nat} {L : List (Int × α)} (h : MapL enc w b L) :
    Calls Tryz.prog 69 #[.map (some b)] w fun r w' => ∃ v, r = .returned v ∧ w'.ownsRow w.heap.size 3 1 v L.length (zcs (srt (kys L))) ∧ Below w.heap.size w w' := by
  obtain ⟨i0, hi0, hz0, hz1, hz2⟩ := info_parts infoI
  obtain ⟨D, hown, hnd, hmem⟩ := h.mp.keys
  have hsz : Maps.size D ≤ 256 := by
    have hs : Maps.size D = (intKeys D).length := by
      obtain ⟨es, cl, hb, F, hs, rfl⟩ := hown
      simp [Maps.size, intKeys]
    rw [hs]
    have := nodup_sub _ (kys L) hnd (fun x hx => (MapL.keysOf x).2 ((hmem x).1 hx))
    rw [kys_len] at this
    have := h.gd.le
    omega
  have HP : Hid (∀ ss : List Int, ss.Perm (intKeys D) → ss.length = L.length ∧ srt ss = srt (kys L) ∧ ∀ x ∈ ss, 0 ≤ x ∧ x < 1024) := fun ss hss => by
    have hp : ss.Perm (kys L) := hss.trans (perm_same hnd h.gd.nd (fun x => (hmem x).trans (MapL.keysOf x).symm))
    exact ⟨by rw [hp.length_eq, kys_len], srt_perm hp, fun x hx => h.gd.cl x (hp.mem_iff.1 hx)⟩
  have hbl := hown.lt
  clear h hnd hmem
  generalize L.length = nL at *
  generalize srt (kys L) = sL at *
  go_enter Tryz.func69, Tryz.ntmps69
  go_wp2_with (first
    | (at_range; refine wpList_range_own _ rfl _ 90 rfl 3 28 keyed3 Tryz.underlying90 _ b _ _ rfl hown ?_; intro w0 hrg0 hg0 hs0)
    | go_in)
  go_frame
  go_loopw [3] (fun v wr => ∃ (left : Lit → Bool) (cnt : Nat) (ss : List Int), wr.ranges Tryz.prog 3 rV b w.heap.size nL D left cnt ∧ ss.length + cnt ≤ Maps.size D ∧
      wr.ownsRow w.heap.size 3 1 v ss.length (zcs ss) ∧ CollectedI D left ss ∧ Below w.heap.size w wr)
    (fun _ wr => wr.rangeLeft b w.heap.size)
  case atStart =>
    exact ⟨_, _, [], hrg0, by simp, ⟨rfl, .inl ⟨rfl, rfl⟩⟩, CollectedI.start D, (Below.refl _ _).grown hg0 (Nat.le_refl _) (fun j hj => by cases hj)⟩
  case round =>
    obtain ⟨left, cnt, ss, hrg, hcs, hrow, hC, hnx⟩ := hrel
    obtain ⟨a, cap, rfl⟩ := ownsRow_slice hrow
    go_wp2_with (first
      | (at_next; refine wpList_next_ranges _ rfl _ rfl 3 keyed3 rV encZ (fun v : Value => v) (fun key kl hk => by obtain ⟨x, hx, _⟩ := Maps.keyOf_i64 Tryz.underlying3 hk; exact ⟨x, hx⟩) (fun v y _ => ⟨v, rfl⟩) b w.heap.size nL _ _ _ rfl hrg ?_ ?_)
      | go_in)
    · intro hc0 hl0
      have H3 : Hid (ss.length = nL ∧ srt ss = sL ∧ ∀ x ∈ ss, 0 ≤ x ∧ x < 1024) := HP.out ss (hC.perm hown keyed3 Tryz.underlying3 hl0)
      have hc := sortC_at 81 eg50 cmpReads50 hrow H3.out.2.2 (by omega)
      have HB : Hid (∀ w', w'.ownsRow w.heap.size 3 1 (.slice a ss.length cap) ss.length (zcs (srt ss)) → wr.grownBy w' (Value.slice a ss.length cap).ownBlock → w'.ownsRow w.heap.size 3 1 (.slice a ss.length cap) nL (zcs sL) ∧ Below w.heap.size w w') := fun w' k1 k2 => by
        refine ⟨?_, hnx.grown k2 hnx.size (fun j hj => (hrow.lt j hj).1)⟩
        rw [← H3.out.1, ← H3.out.2.1]
        exact k1
      generalize ss.length = m at *
      clear hrg hC hl0 hc0 hrow hnx hcs H3 HP hown hsz hrg0 hg0 hs0 hbl
      go_wp2_with (go_at_call 80; refine hc.mono ?_; rintro e w' ⟨rfl, hrow', hg'⟩)
      go_ret
      exact ⟨_, rfl, HB.out _ hrow' hg'⟩
    · intro x c kl yd yp w2 cnt2 hkey hlk hv hat hrg2 hlt hg2 hs2 hen
      obtain ⟨x', ex, rfl, hwx⟩ := Maps.keyOf_i64 Tryz.underlying3 hkey
      obtain rfl : x = x' := encZ_inj ex
      have hne : (Value.slice a ss.length cap).ownBlock ≠ some w.heap.size := (row_ne_iter hrow hrg).symm
      have hrow2 := ownsRow_grown hrow hg2 (fun k hk e => hne (by rw [hk, ← e]))
      clear hs2
      unfold encZ at hen
      go_wp2_with (first
        | (at_builtin; refine wpList_append_own _ rfl _ _ 102 rfl w.heap.size 3 i0 (.int .i64 0) 1 8 Tryz.underlying102 hi0 hz0 hz1 hz2 rfl (by decide) _ _ _ rfl (hrow2.alloc _) ⟨w2.heap.size, 0, none⟩ 1 1 [.int .i64 x] rfl rfl (cell_one_new _ _ _) (by simp [Value.oneCell']) (by unfold maxLen; omega) (by omega) (by have := hnx.size; have := hg2.size; simp; omega) ?_; intro v' w3 hown' hg3 hnil3; go_frame)
        | go_in)
      have hrg3 := (hrg2.alloc _).kept hg3 (row_ne_low hrow2 hbl) (row_ne_iter hrow2 hrg2)
      go_roundw
      case rel =>
        refine ⟨_, cnt2, ss ++ [x], hrg3, by simp; omega, by simpa [zcs, encI] using hown', hC.step hlk hat, ?_⟩
        exact ((hnx.grown hg2 hnx.size (fun j hj => by cases hj; exact Nat.le_refl _)).alloc (by have := hnx.size; have := hg2.size; omega) _).grown hg3 (by have := hnx.size; have := hg2.size; simp; omega) (fun j hj => (hrow2.lt j hj).1)
      case measure => rw [hrg3.left_eq, hrg.left_eq]; exact hlt

theorem writes_at {w : World} {B g : Nat} {S : SS En} {F : Nat → Prop} (h : IsS ag 93 91 w B g S F) :
    Calls Tryz.prog 46 #[ptr g] w fun r w' => ∃ v, r = .returned v ∧ w'.ownsRow w.heap.size 3 1 v S.W.length (zcs (srt (kys S.W))) ∧ Below w.heap.size w w' := by
  obtain ⟨rb, wb, v, X, h⟩ := h
  have c := madeS h.box
  have c1 : w.cell? ⟨g, 2, none⟩ = some (mp wb) := h.box.cell 2
  have cr := risingW_at h.wr
  clear h
  unfold ptr mp at *
  go_enter Tryz.func46, Tryz.ntmps46
  go_wp2_with (first | (go_at_call 68; refine c.mono ?_; rintro e w' ⟨rfl, rfl⟩) | (go_at_call 69; refine cr.mono ?_; rintro e w2 ⟨v', rfl, k1, k2⟩))
  go_ret
  exact ⟨_, rfl, k1, k2⟩
end Go.Proofs.YtlbjalodjcajfaaGreat
