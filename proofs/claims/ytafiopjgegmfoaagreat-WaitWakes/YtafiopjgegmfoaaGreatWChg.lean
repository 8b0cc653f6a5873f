/-
  A watch's calls: Changed, Forget.
-/
import Derived.Test.YtafiopjgegmfoaaGreatWOps
namespace Go.Proofs.YtafiopjgegmfoaaGreat.W
open Go.RowKit Go.Maps Go.Proofs.YtafiopjgegmfoaaGreat Go.Proofs.YtafiopjgegmfoaaGreat.C Go.Proofs.YtafiopjgegmfoaaGreat.T
def stays (S : M) (P : Wts) : Wts := P.filter fun p => !(goOn S p.2.2)
def rms (P : Wts) (ks : List Int) : Wts := ks.foldl rm P
section
variable {u u' : World} {B wb m : Nat} {P P' : Wts} {H : Nat → Prop} {S : M}
theorem rms_all : ∀ (ks : List Int) (P : Wts), rms P ks = P.filter fun p => !(ks.contains p.1)
  | [], P => by
    unfold rms
    simp only [List.foldl_nil, List.contains_nil, Bool.not_false]
    exact (List.filter_eq_self.2 (fun _ _ => rfl)).symm
  | k :: ks, P => by
    show rms (rm P k) ks = _
    rw [rms_all ks]
    unfold rm
    rw [List.filter_filter]
    refine List.filter_congr (fun p _ => ?_)
    rw [List.contains_cons]
    cases (p.1 == k) <;> cases (ks.contains p.1) <;> rfl
theorem mem_gath {pr : Rds → Bool} (hn : (kys P).Nodup) {p : Int × (Value × Rds)} (hp : p ∈ P) : (gath pr P).contains p.1 = pr p.2.2 := by
  have hg := gt_of_mem hn hp
  have hs : sel pr P p.1 = pr p.2.2 := by unfold sel; rw [hg]
  cases h : pr p.2.2 with
  | true =>
    rw [List.contains_iff_mem]
    unfold gath
    rw [srt_mem, List.mem_filter]
    exact ⟨List.mem_map_of_mem hp, by rw [hs, h]⟩
  | false =>
    rw [← Bool.not_eq_true, List.contains_iff_mem]
    unfold gath
    rw [srt_mem, List.mem_filter]
    rintro ⟨_, h2⟩
    rw [hs, h] at h2
    cases h2
theorem rms_changed (hn : (kys P).Nodup) : rms P (changed S P) = stays S P := by
  rw [rms_all]
  unfold stays changed
  exact List.filter_congr (fun p hp => by rw [mem_gath hn hp])
theorem rms_take (P : Wts) (ks : List Int) (k : Nat) (x : Int) (h : ks[k]? = some x) : rms P (ks.take (k + 1)) = rm (rms P (ks.take k)) x := by
  obtain ⟨hl, rfl⟩ := List.getElem?_eq_some_iff.1 h
  unfold rms
  rw [List.take_succ_eq_append_getElem hl, List.foldl_append]
  rfl
theorem gath_wf {pr : Rds → Bool} (h : IsW u B wb m P H) : ∀ x ∈ gath pr P, (Lit.int .i64 x).wf = true := fun x hx => by
  unfold gath at hx
  rw [srt_mem, List.mem_filter] at hx
  exact h.wf x hx.1
theorem zcs_get {l : List Int} {k : Nat} {x : Int} (h : l[k]? = some x) : (zcs l)[k]? = some (.int .i64 x) := by
  unfold zcs
  rw [List.getElem?_map, h]
  rfl
set_option maxRecDepth 100000 in
set_option maxHeartbeats 4000000 in
theorem changed_at (h : IsW u B wb m P H) (hm : C.IsM 29 83 u B m S) : Calls Tryz.prog 13 #[ptr wb] u fun r u' => ∃ v, r = .returned v ∧ u'.ownsRow u.heap.size 3 1 v (changed S P).length (zcs (changed S P)) ∧ ToW u B wb m (stays S P) H u' := by
  have hmf : ∀ (fn : Fn) (first cap : Array Value) (w : World), (Instr.makeFunc fn first cap).run Tryz.prog w = .ok (.func fn first cap) w := fun _ _ _ _ => rfl
  obtain ⟨u1, hu1⟩ : ∃ u1, u1 = u.alloc (.cells #[ptr wb] 22) := ⟨_, rfl⟩
  have bb : Below u.heap.size u u1 := by rw [hu1]; exact (Below.refl _ _).alloc (Nat.le_refl _) _
  have bc : Box u1 u.heap.size #[ptr wb] 22 := by rw [hu1]; exact Box.new u _ 22
  have h1 := h.below bb
  have hm1 := hm.below bb
  obtain ⟨mb, bx1, _, _⟩ := h1.box
  have cg := gather_at h1 34 #[ptr u.heap.size] (goOn S) enter34 (fun p hp u' hb => clo34_at (hm1.below hb) (bx1.below hb bx1.lt) (bc.below hb bc.lt) ((row_stay (h1.rows p hp).1 (fun k hk => hb.block k (row_own_box (h1.rows p hp).1 k hk)))) (h1.rows p hp).2.1)
  rw [show gath (goOn S) P = changed S P from rfl] at cg
  have hcl := gath_len (goOn S) P
  rw [show gath (goOn S) P = changed S P from rfl] at hcl
  have c0 : u1.cell? ⟨u.heap.size, 0, none⟩ = some (ptr wb) := bc.cell 0
  have HW : Hid (∀ x ∈ changed S P, (Lit.int .i64 x).wf = true) := gath_wf h
  have HE : Hid (rms P (changed S P) = stays S P) := rms_changed h.nd
  have hle := h.le
  have HF : Hid (∀ y, H y → B ≤ y ∧ y < u.heap.size) := h.lo
  have H1 : Hid (IsW u1 B wb m P H ∧ Below u.heap.size u u1 ∧ Box u1 u.heap.size #[ptr wb] 22 ∧ B ≤ u.heap.size) := ⟨h1, bb, bc, h.hB⟩
  clear h h1 hm hm1 bx1 bc bb
  generalize changed S P = L at *
  unfold ptr at *
  go_enter Tryz.func13, Tryz.ntmps13
  go_wp2_with fail
  rw [← hu1]
  refine Calls.mono cg ?_
  rintro e u2 ⟨v, rfl, hr, hb2⟩
  obtain ⟨a, cap, rfl⟩ := ownsRow_slice hr
  obtain ⟨n, hn⟩ : ∃ n, n = L.length := ⟨_, rfl⟩
  have HN : Hid (n = L.length) := hn
  have HB2 : Hid (Below u1.heap.size u1 u2) := hb2
  rw [← hn] at hr hcl ⊢
  have HR : Hid (u2.ownsRow u1.heap.size 3 1 (.slice a n cap) n (zcs L)) := hr
  clear hr hb2 cg c0 hu1 hn
  go_wp2_with fail
  go_loopw [11] (fun i wr => ∃ k : Nat, k ≤ n ∧ i = .int .i64 (k : Int) ∧ IsW wr B wb m (rms P (L.take k)) H ∧ Upd H u2 wr ∧ Below B u2 wr) (fun i _ => n - (civ i).toNat)
  case atStart => exact ⟨0, Nat.zero_le _, rfl, by simpa [rms] using H1.out.1.below HB2.out, Upd.refl _ _, Below.refl _ _⟩
  case round =>
    obtain ⟨k, hk, rfl, hw, hu, hbl⟩ := hrel
    have HU : Hid (Upd H u2 wr ∧ Below B u2 wr) := ⟨hu, hbl⟩
    have hnew : ∀ y, u.heap.size ≤ y → y < u2.heap.size → wr.heap[y]? = u2.heap[y]? := fun y h1 h2 => hu.2 y h2 (fun hy => by have := (HF.out y hy).2; omega)
    by_cases hlt : k < n
    · have hki : (k : Int) < (n : Int) := by omega
      obtain ⟨x, hx⟩ : ∃ x, L[k]? = some x := ⟨_, List.getElem?_eq_getElem (by have := HN.out; omega)⟩
      have hxw := HW.out x (List.mem_of_getElem? hx)
      have hrow := row_stay (u' := wr) HR.out (fun y hy => hnew y (Nat.le_trans H1.out.2.1.size (HR.out.lt y hy).1) (HR.out.lt y hy).2)
      obtain ⟨g, cap', e, cx⟩ := ownsRow_cell hrow k hlt
      rw [zcs_get hx] at cx
      injection e with e1 e2 e3
      subst e1
      have bc2 : Box wr u.heap.size #[.pointer (some ⟨wb, 0, none⟩)] 22 := by
        have b0 := H1.out.2.2.1
        have := b0.below HB2.out b0.lt
        exact (hnew _ (Nat.le_refl _) this.lt).trans this
      have c0 : wr.cell? ⟨u.heap.size, 0, none⟩ = some (.pointer (some ⟨wb, 0, none⟩)) := bc2.cell 0
      obtain ⟨mb', c2, hstr⟩ := hw.strike x hxw
      obtain ⟨w', hrun, hw', hu', hbl'⟩ := hstr 0
      have HT : Hid (rms P (L.take (k + 1)) = rm (rms P (L.take k)) x) := rms_take P L k x hx
      have HW' : Hid (IsW w' B wb m (rm (rms P (L.take k)) x) H ∧ Upd H u2 w' ∧ Below B u2 w') := ⟨hw', HU.out.1.trans hu' (fun _ hy => .inl hy), HU.out.2.trans hbl'⟩
      clear hu hbl hw hnew hx hxw hrow bc2 hstr hw' hu' hbl'
      go_wp2_with fail
      go_roundw
      case rel => exact ⟨k + 1, by omega, by go_num, by rw [HT.out]; exact HW'.out.1, HW'.out.2⟩
      case measure => simp [civ]; omega
    · have e : L.take k = L := List.take_of_length_le (by have := HN.out; omega)
      obtain rfl : k = n := by omega
      have HL : Hid (IsW wr B wb m (stays S P) H) := by
        rw [e, HE.out] at hw
        exact hw
      clear hw hnew hu hbl
      go_wp2_with fail
      go_ret
      have hb12 := H1.out.2.1.trans (HB2.out.mono H1.out.2.1.size)
      have s2 := hb12.size
      have s3 := HU.out.1.1
      refine ⟨_, rfl, ?_, HL.out.wide (fun _ hy => .inl hy) (fun y hy => hy.elim (HL.out.lo y) (fun e => ⟨Nat.le_trans H1.out.2.2.2 e.1, e.2⟩)), (hb12.mono H1.out.2.2.2).trans HU.out.2, Nat.le_trans s2 s3, fun y hy hn => (HU.out.1.2 y (Nat.lt_of_lt_of_le hy s2) hn).trans (hb12.block y hy)⟩
      have hr2 := row_stay (u' := wr) HR.out (fun y hy => HU.out.1.2 y (HR.out.lt y hy).2 (fun hz => by have := (HF.out y hz).2; have := (HR.out.lt y hy).1; have := H1.out.2.1.size; omega))
      have hr3 : wr.ownsRow u.heap.size 3 1 (.slice a k cap) k (zcs L) := by
        refine ⟨hr2.1, ?_⟩
        rcases hr2.2 with q | ⟨g, cp, cu, e1, q1, q⟩
        · exact .inl q
        · exact .inr ⟨g, cp, cu, e1, Nat.le_trans H1.out.2.1.size q1, q⟩
      rw [← HN.out]
      exact hr3
theorem isParked_at (h : IsW u B wb m P H) (k : Int) (hk : (Lit.int .i64 k).wf = true) : Calls Tryz.prog 31 #[ptr wb, .int .i64 k] u fun r u' => r = .returned (.bool (gt P k).isSome) ∧ u' = u := by
  obtain ⟨mb, bx, hmp, _⟩ := h.box
  have c := made_at bx
  have c2 : u.cell? ⟨wb, 2, none⟩ = some (.map (some mb)) := bx.cell 2
  have hl := hmp.look 30 65 (.slice none 0 0) Tryz.underlying30 Tryz.zeroValue65 k hk
  have e : ((gt P k).map (·.1)).isSome = (gt P k).isSome := by simp
  rw [e] at hl
  clear h bx hmp e
  unfold ptr at *
  generalize ((gt P k).map (·.1)).getD (.slice none 0 0) = x at *
  generalize (gt P k).isSome = y at *
  go_enter Tryz.func31, Tryz.ntmps31
  go_wp2_with (go_at_call 10; refine c.mono ?_; rintro e w' ⟨rfl, rfl⟩)
  go_ret
  simp
theorem forget_at (h : IsW u B wb m P H) (k : Int) (hk : (Lit.int .i64 k).wf = true) : Calls Tryz.prog 12 #[ptr wb, .int .i64 k] u fun r u' => r = .returned (.bool (gt P k).isSome) ∧ ToW u B wb m (rm P k) H u' := by
  have c := isParked_at h k hk
  have hB := h.hB
  cases hg : gt P k with
  | none =>
    have HT : Hid (ToW u B wb m (rm P k) H u) := by
      have q := ToW.refl h
      rw [← rm_none hg] at q
      exact q
    rw [hg] at c
    clear h
    unfold ptr at *
    go_enter Tryz.func12, Tryz.ntmps12
    go_wp2_with (go_at_call 31; refine c.mono ?_; rintro e w' ⟨rfl, rfl⟩)
    go_ret
    exact ⟨rfl, HT.out⟩
  | some p =>
    obtain ⟨mb, c2, hs⟩ := h.strike k hk
    obtain ⟨w', hrun, hw', hu', hbl'⟩ := hs 0
    have HT : Hid (ToW u B wb m (rm P k) H w') := ⟨hw'.wide (fun _ hy => .inl hy) (fun y hy => hy.elim (hw'.lo y) (fun e => ⟨Nat.le_trans hB e.1, e.2⟩)), hbl', hu'⟩
    rw [hg] at c
    clear h hs hw' hu' hbl'
    unfold ptr at *
    go_enter Tryz.func12, Tryz.ntmps12
    go_wp2_with (go_at_call 31; refine c.mono ?_; rintro e w' ⟨rfl, rfl⟩)
    go_ret
    exact ⟨rfl, HT.out⟩
end
end Go.Proofs.YtafiopjgegmfoaaGreat.W
