/-
  A watch's calls: New, Park.
-/
import Derived.Test.YtafiopjgegmfoaaGreatWRds
namespace Go.Proofs.YtafiopjgegmfoaaGreat.W
open Go.RowKit Go.Maps Go.Proofs.YtafiopjgegmfoaaGreat Go.Proofs.YtafiopjgegmfoaaGreat.C Go.Proofs.YtafiopjgegmfoaaGreat.T
section
variable {u u' : World} {B wb g m : Nat} {P : Wts} {H : Nat → Prop} {X : TX} {F : Nat → Prop} {S : M}
theorem new_bad {v : Value} (h : C.NoM u v) : Calls Tryz.prog 6 #[v] u fun r u' => r = .returned (.tuple #[.pointer none, .int .i64 1]) ∧ u' = u := by
  have c := C.size_none h
  rcases h with rfl | ⟨q, a, b, rfl, hb⟩
  all_goals
    try unfold ptr at *
    go_enter Tryz.func6, Tryz.ntmps6
    go_wp2_with (go_at_call 27; refine c.mono ?_; rintro e w' ⟨rfl, rfl⟩)
    go_ret2
    simp
theorem new_at (hm : C.IsM 29 83 u B m S) : Calls Tryz.prog 6 #[ptr m] u fun r u' => ∃ wb, r = .returned (.tuple #[ptr wb, .int .i64 0]) ∧ IsW u' B wb m [] (fun y => u.heap.size ≤ y ∧ y < u'.heap.size) ∧ Below u.heap.size u u' := by
  have c := C.size_at hm
  have h1 := hm.rt.n1
  have hB := hm.hB
  obtain ⟨n, hn⟩ : ∃ n, n = S.C.length := ⟨_, rfl⟩
  rw [← hn] at c h1
  have hn0 : ((n : Int) == 0) = false := by simp; omega
  have hmm := @run_makeMap Tryz.prog
  clear hm hn
  have s1 : (u.alloc (.map #[] 0)).heap.size = u.heap.size + 1 := by simp
  have bx := Box.new (u.alloc (.map #[] 0)) #[.pointer none, ptr m, .map (some u.heap.size)] 32
  have by1 := Box.new (u.alloc (.map #[] 0)) #[ptr (u.heap.size + 1), ptr m, .map (some u.heap.size)] 32
  rw [s1] at bx by1
  have HX : Hid (Box ((u.alloc (.map #[] 0)).alloc (.cells #[ptr (u.heap.size + 1), ptr m, .map (some u.heap.size)] 32)) (u.heap.size + 1) #[ptr (u.heap.size + 1), ptr m, .map (some u.heap.size)] 32) := by1
  have HM : Hid (MapI ((u.alloc (.map #[] 0)).alloc (.cells #[ptr (u.heap.size + 1), ptr m, .map (some u.heap.size)] 32)) u.heap.size 0 (fun _ => none)) := by
    have m0 := MapI.made u
    exact m0.stay (w' := ((u.alloc (.map #[] 0)).alloc (.cells #[ptr (u.heap.size + 1), ptr m, .map (some u.heap.size)] 32))) (Below.heap_alloc _ _ _ m0.lt)
  have HBl : Hid (Below u.heap.size u ((u.alloc (.map #[] 0)).alloc (.cells #[ptr (u.heap.size + 1), ptr m, .map (some u.heap.size)] 32))) := ((Below.refl u.heap.size u).alloc (Nat.le_refl _) _).alloc (by simp) _
  have f1 : ((u.alloc (.map #[] 0)).alloc (.cells #[.pointer none, ptr m, .map (some u.heap.size)] 32)).frozen? ⟨u.heap.size + 1, 0, none⟩ = false := bx.frozen 0
  have f2 : ((u.alloc (.map #[] 0)).alloc (.cells #[.pointer none, ptr m, .map (some u.heap.size)] 32)).cell? ⟨u.heap.size + 1, 0, none⟩ = some (.pointer none) := bx.cell 0
  clear bx by1 s1
  unfold ptr at *
  go_enter Tryz.func6, Tryz.ntmps6
  go_wp2_with (go_at_call 27; refine c.mono ?_; rintro e w' ⟨rfl, hw'⟩; subst w')
  go_ret2
  have hs : ((u.alloc (.map #[] 0)).alloc (.cells #[.pointer (some ⟨u.heap.size + 1, 0, none⟩), .pointer (some ⟨m, 0, none⟩), .map (some u.heap.size)] 32)).heap.size = u.heap.size + 2 := by simp
  exact ⟨u.heap.size + 1, rfl, ⟨List.nodup_nil, (fun k hk => by cases hk), Nat.zero_le _, ⟨by omega, by rw [hs]; omega⟩, fun y hy => ⟨by omega, hy.2⟩, ⟨u.heap.size, HX.out, HM.out, ⟨Nat.le_refl _, by rw [hs]; omega⟩⟩, (fun p hp => by cases hp)⟩, HBl.out⟩
/-- one waiter more -/
theorem IsW.add {v : Value} {rd : Rds} {id : Int} (h : IsW u B wb m P H) (hk : (Lit.int .i64 id).wf = true) (hn : gt P id = none) (hl : P.length < 64) (hr : u.ownsRow B 93 2 v rd.length (rcs rd)) (hl2 : rd.length ≤ 256) (hv : ∀ k, v.ownBlock = some k → H k) (mb : Nat) (hc : u.cell? ⟨wb, 2, none⟩ = some (.map (some mb))) :
    ∃ w', (Instr.mapUpdate 30 (.map (some mb)) (.int .i64 id) v).run Tryz.prog u = .ok () w' ∧ IsW w' B wb m (P ++ [(id, (v, rd))]) H ∧ Upd H u w' ∧ Below B u w' := by
  obtain ⟨mb', bx, hmp, hmb⟩ := h.box
  have e : mb' = mb := by
    have := (bx.cell 2).symm.trans hc
    injection this with this
    injection this with this
    injection this
  subst e
  obtain ⟨w', hrun, hm, hg⟩ := hmp.update (by unfold maxLen; omega) 30 65 Tryz.underlying30 id hk v
  have hu : Upd H u w' := ⟨hg.size, fun j hj hn => hg.block j hj (fun e => hn (by cases e; exact hmb))⟩
  have st : ∀ y, y < u.heap.size → y ≠ mb' → w'.heap[y]? = u.heap[y]? := fun y hl hy => hg.block y hl (fun e => hy (by injection e))
  have rowst : ∀ {n : Nat} {v : Value} {xs : List Value}, u.ownsRow B 93 2 v n xs → w'.ownsRow B 93 2 v n xs := fun r1 => row_stay r1 (fun k hk => by
    obtain ⟨cs, hc⟩ := ownsRow_box r1 k hk
    exact st k (Box.lt hc) (fun e => hmp.noBox hc e.symm))
  have hks : kys (P ++ [(id, (v, rd))]) = kys P ++ [id] := by unfold kys; rw [List.map_append]; rfl
  have hno : id ∉ kys P := fun hm => by rw [gt_some_iff, hn] at hm; cases hm
  refine ⟨w', hrun, ⟨?_, fun j hj => ?_, ?_, h.hw, fun y hy => ⟨(h.lo y hy).1, Nat.lt_of_lt_of_le (h.lo y hy).2 hg.size⟩, ⟨mb', (st _ bx.lt (fun e => hmp.noBox bx e.symm)).trans bx, ?_, hmb⟩, fun p hp => ?_⟩, hu, ⟨hg.os, hg.tape, hg.output, hg.size, fun j hj => hg.block j (Nat.lt_of_lt_of_le hj h.hB) (fun e => by cases e; have := (h.lo _ hmb).1; omega)⟩⟩
  · rw [hks, List.nodup_append]
    exact ⟨h.nd, by simp, fun a ha b hb => by rw [List.mem_singleton] at hb; subst hb; exact fun e => hno (e ▸ ha)⟩
  · rw [hks, List.mem_append, List.mem_singleton] at hj
    rcases hj with hj | rfl
    · exact h.wf j hj
    · exact hk
  · rw [List.length_append]; simp; omega
  · have e : (fun j => if j = id then some v else (gt P j).map (·.1)) = fun j => (gt (P ++ [(id, (v, rd))]) j).map (·.1) := funext fun j => by
      rw [gt_append P id j (v, rd) hn]
      split <;> rfl
    rw [e] at hm
    have := hm.tight (kys (P ++ [(id, (v, rd))])) (fun x => by rw [gt_some_iff]; simp)
    rwa [kys_len] at this
  · rcases List.mem_append.1 hp with hp | hp
    · obtain ⟨r1, r2, r3⟩ := h.rows p hp
      exact ⟨rowst r1, r2, r3⟩
    · rw [List.mem_singleton] at hp
      subst hp
      exact ⟨rowst hr, hl2, hv⟩
theorem IsW.len (h : IsW u B wb m P H) : ∃ mb, u.cell? ⟨wb, 2, none⟩ = some (.map (some mb)) ∧ ∀ ty, (Builtin.len_ #[30] ty #[.map (some mb)]).run Tryz.prog u = .ok (.int .i64 (P.length : Int)) u := by
  obtain ⟨mb, bx, hmp, hmb⟩ := h.box
  refine ⟨mb, bx.cell 2, fun ty => ?_⟩
  rw [hmp.len (kys P) h.nd (fun x => by rw [gt_some_iff]; simp) 30 65 Tryz.underlying30 ty, kys_len]
set_option maxRecDepth 100000 in
set_option maxHeartbeats 4000000 in
theorem park_ok {id : Int} (h : IsW u B wb m P H) (hx : IsX u B g m X F) (h1 : 1 ≤ id) (hk : (Lit.int .i64 id).wf = true) (hn : gt P id = none) (hl : P.length < 64) :
    Calls Tryz.prog 11 #[ptr wb, .int .i64 id, ptr g] u fun r u' => r = .returned (.int .i64 0) ∧ ∃ v, ToW u B wb m (P ++ [(id, (v, rdOf X))]) H u' := by
  obtain ⟨mb0, bx, _, _⟩ := h.box
  have c1 := made_at bx
  have c2 := isBegun_at hx
  have c3 := isParked_at h id hk
  rw [hn] at c3
  obtain ⟨mb, c4, c5⟩ := h.len
  have hB := h.hB
  have hle := (IsX.reads hx).1
  have hl64 : ((P.length : Nat) : Int) < 64 := by omega
  generalize hpl : (P.length : Int) = pl at c5 hl64
  have HK : Hid (∀ n, Calls Tryz.prog 32 #[ptr g] (u.drewN n) fun r u' => ∃ v, r = .returned v ∧ ∀ q, (u'.drewN q).cell? ⟨wb, 2, none⟩ = some (.map (some mb)) ∧ ∃ w', (Instr.mapUpdate 30 (.map (some mb)) (.int .i64 id) v).run Tryz.prog (u'.drewN q) = .ok () w' ∧ ToW u B wb m (P ++ [(id, (v, rdOf X))]) H w') := fun n => by
    have hbn : Below u.heap.size u (u.drewN n) := ⟨rfl, rfl, rfl, Nat.le_refl _, fun _ _ => rfl⟩
    refine (readsOf_at (hx.below hbn)).mono ?_
    rintro r u' ⟨v, rfl, hr, hb⟩
    refine ⟨v, rfl, fun q => ?_⟩
    have hbq : Below u.heap.size u (u'.drewN q) := ⟨hb.os, hb.tape, hb.output, hb.size, hb.block⟩
    have hw := (ToW.below h hbq)
    obtain ⟨mb', bx', _, _⟩ := hw.is.box
    have hcc : (u'.drewN q).cell? ⟨wb, 2, none⟩ = some (.map (some mb)) := by
      have := (bx.below hbq bx.lt).cell 2
      exact this.trans ((bx.cell 2).symm.trans c4)
    have hr' : (u'.drewN q).ownsRow B 93 2 v (rdOf X).length (rcs (rdOf X)) := by
      refine ⟨hr.1, ?_⟩
      rcases hr.2 with q | ⟨g, cp, cu, e1, q1, q⟩
      · exact .inl q
      · exact .inr ⟨g, cp, cu, e1, Nat.le_trans hB q1, q⟩
    obtain ⟨w', hrun, hw', hu', hbl'⟩ := hw.is.add hk hn hl hr' (by rw [rdOf_len]; exact hle) (fun k hk => .inr ⟨(hr.lt k hk).1, (hr.lt k hk).2⟩) mb hcc
    refine ⟨hcc, w', hrun, hw'.wide (fun y hy => hy.imp (fun e => e) (fun e => ⟨e.1, Nat.lt_of_lt_of_le e.2 hu'.1⟩)) (fun y hy => hy.elim (fun k => hw'.lo y (.inl k)) (fun e => ⟨Nat.le_trans hB e.1, e.2⟩)), hw.bel.trans hbl', hw.upd.trans hu' (fun y hy => hy.imp (fun e => e) (fun e => e.1))⟩
  clear h hx bx hn hl hle hpl
  unfold ptr at *
  go_enter Tryz.func11, Tryz.ntmps11
  go_wp2_with (first | (go_at_call 10; refine c1.mono ?_; rintro e w' ⟨rfl, hw'⟩; subst w') | (go_at_call 30; refine c2.mono ?_; rintro e w' ⟨rfl, hw'⟩; subst w') | (go_at_call 31; refine c3.mono ?_; rintro e w' ⟨rfl, hw'⟩; subst w'))
  clear c1 c2 c3 c5
  go_region_with (first
    | (go_at_call 32; first | refine (HK.out 0).mono ?_ | refine (HK.out 1).mono ?_ | refine (HK.out 2).mono ?_
       rintro e w3 ⟨v, rfl, hq⟩
       have d0 : w3.cell? ⟨wb, 2, none⟩ = some (.map (some mb)) := (hq 0).1
       have d1 : w3.drew.cell? ⟨wb, 2, none⟩ = some (.map (some mb)) := (hq 1).1
       obtain ⟨x0, r0, t0⟩ : ∃ w', (Instr.mapUpdate 30 (.map (some mb)) (.int .i64 id) v).run Tryz.prog w3 = .ok () w' ∧ ToW u B wb m (P ++ [(id, (v, rdOf X))]) H w' := (hq 0).2
       obtain ⟨x1, r1, t1⟩ : ∃ w', (Instr.mapUpdate 30 (.map (some mb)) (.int .i64 id) v).run Tryz.prog w3.drew = .ok () w' ∧ ToW u B wb m (P ++ [(id, (v, rdOf X))]) H w' := (hq 1).2
       have T0 : Hid (ToW u B wb m (P ++ [(id, (v, rdOf X))]) H x0) := t0
       have T1 : Hid (ToW u B wb m (P ++ [(id, (v, rdOf X))]) H x1) := t1
       clear hq t0 t1))
  all_goals go_wp2_with fail
  all_goals go_ret
  all_goals first | exact ⟨rfl, v, T0.out⟩ | exact ⟨rfl, v, T1.out⟩
end
end Go.Proofs.YtafiopjgegmfoaaGreat.W
