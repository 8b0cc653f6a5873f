/-
  A watch's calls: Parked, Changed, Forget.
-/
import Derived.Test.YtafiopjgegmfoaaGreatWGat
namespace Go.Proofs.YtafiopjgegmfoaaGreat.W
open Go.RowKit Go.Maps Go.Proofs.YtafiopjgegmfoaaGreat Go.Proofs.YtafiopjgegmfoaaGreat.C Go.Proofs.YtafiopjgegmfoaaGreat.T
def parked (P : Wts) : List Int := gath (fun _ => true) P
def changed (S : M) (P : Wts) : List Int := gath (goOn S) P
def rm (P : Wts) (k : Int) : Wts := P.filter fun p => !(p.1 == k)
/-- what a call leaves -/
structure ToW (u : World) (B wb m : Nat) (P : Wts) (H : Nat → Prop) (u' : World) : Prop where
  is : IsW u' B wb m P (grow H u u')
  bel : Below B u u'
  upd : Upd H u u'
section
variable {u u' : World} {B wb m : Nat} {P P' : Wts} {H : Nat → Prop}
theorem IsW.hB (h : IsW u B wb m P H) : B ≤ u.heap.size := Nat.le_trans (h.lo _ h.hw).1 (Nat.le_of_lt (h.lo _ h.hw).2)
theorem ToW.refl (h : IsW u B wb m P H) : ToW u B wb m P H u := ⟨h.wide (fun _ hy => .inl hy) (fun y hy => hy.elim (h.lo y) (fun e => by omega)), Below.refl _ _, Upd.refl _ _⟩
theorem ToW.below (h : IsW u B wb m P H) (hb : Below u.heap.size u u') : ToW u B wb m P H u' :=
  ⟨(h.below hb).wide (fun _ hy => .inl hy) (fun y hy => hy.elim (fun k => ⟨(h.lo y k).1, Nat.lt_of_lt_of_le (h.lo y k).2 hb.size⟩) (fun e => ⟨Nat.le_trans h.hB e.1, e.2⟩)), hb.mono h.hB, hb.size, fun k hk _ => hb.block k hk⟩
theorem gt_rm (P : Wts) (k j : Int) : gt (rm P k) j = if j = k then none else gt P j := by
  induction P with
  | nil => simp [rm, gt_nil]
  | cons p P ih =>
    unfold rm at *
    rw [List.filter_cons]
    by_cases e : p.1 = k
    · rw [show (p.1 == k) = true by simpa using e, if_neg (by simp), ih]
      by_cases h : j = k
      · rw [if_pos h, if_pos h]
      · rw [if_neg h, if_neg h, gt_cons, if_neg (fun e' => h (e'.symm.trans e))]
    · rw [show (p.1 == k) = false by simpa using e, if_pos (by simp), gt_cons, ih, gt_cons]
      by_cases h : j = k
      · rw [if_pos h, if_pos h, if_neg (fun e' => e (e'.trans h))]
      · rw [if_neg h, if_neg h]
theorem kys_rm (P : Wts) (k : Int) : kys (rm P k) = (kys P).filter fun x => !(x == k) := by
  unfold kys rm
  rw [List.filter_map]
  rfl
theorem rm_none {P : Wts} {k : Int} (h : gt P k = none) : rm P k = P := by
  unfold rm
  rw [List.filter_eq_self]
  intro p hp
  have : p.1 ≠ k := fun e => by
    have h1 := (gt_some_iff P k).1 (by rw [← e]; exact List.mem_map_of_mem hp)
    rw [h] at h1
    cases h1
  simpa using this
theorem enter36 : ∀ args w, (callFunc 36 args).run Tryz.prog w = .ok (.enter 36 args) w := enters_of Tryz.func36 (by kernel_rfl) rfl
theorem enter34 : ∀ args w, (callFunc 34 args).run Tryz.prog w = .ok (.enter 34 args) w := enters_of Tryz.func34 (by kernel_rfl) rfl
theorem clo36_at (a : Option Addr) (n c : Nat) (w : World) : Calls Tryz.prog 36 #[.slice a n c] w fun r w' => r = .returned (.bool true) ∧ Below w.heap.size w w' := by
  go_enter Tryz.func36, Tryz.ntmps36
  go_wp2
  go_ret
  exact ⟨rfl, Below.refl _ _⟩
theorem parked_at (h : IsW u B wb m P H) : Calls Tryz.prog 14 #[ptr wb] u fun r u' => ∃ v, r = .returned v ∧ u'.ownsRow u.heap.size 3 1 v (parked P).length (zcs (parked P)) ∧ Below u.heap.size u u' := by
  have c := gather_at h 36 #[] (fun _ => true) enter36 (fun p hp u' hb => by
    obtain ⟨a, cap, e⟩ := ownsRow_slice (h.rows p hp).1
    rw [e]
    exact clo36_at a _ cap u')
  rw [show gath (fun _ => true) P = parked P from rfl] at c
  clear h
  unfold ptr at *
  go_enter Tryz.func14, Tryz.ntmps14
  go_wp2_with (go_at_call 33; refine c.mono ?_; rintro e w' ⟨v, rfl, k1, k2⟩)
  go_ret
  exact ⟨_, rfl, k1, k2⟩
theorem row_own_box {w : World} {B n : Nat} {e : TypeId} {z : Nat} {v : Value} {xs : List Value} (h : w.ownsRow B e z v n xs) : ∀ k, v.ownBlock = some k → k < w.heap.size := fun k hk => (h.lt k hk).2
theorem clo34_at {cb : Nat} {a v : Value} {S : M} {rd : Rds} (hm : C.IsM 29 83 u B m S) (bw : Box u wb #[ptr wb, ptr m, a] 32) (bc : Box u cb #[ptr wb] 22) (hr : u.ownsRow B 93 2 v rd.length (rcs rd)) (hl : rd.length ≤ 256) :
    Calls Tryz.prog 34 #[v, ptr cb] u fun r u' => r = .returned (.bool (goOn S rd)) ∧ Below u.heap.size u u' := by
  have c := canGoOn_at hm bw hr hl
  have c0 : u.cell? ⟨cb, 0, none⟩ = some (ptr wb) := bc.cell 0
  obtain ⟨al, cap, rfl⟩ := ownsRow_slice hr
  generalize goOn S rd = z at *
  generalize rd.length = n at *
  clear hm bw bc hr hl
  unfold ptr at *
  go_enter Tryz.func34, Tryz.ntmps34
  go_wp2_with (go_at_call 35; refine c.mono ?_; rintro e w' ⟨rfl, k⟩)
  go_ret
  exact ⟨rfl, k⟩
/-- one waiter is struck -/
theorem IsW.strike (h : IsW u B wb m P H) (k : Int) (hk : (Lit.int .i64 k).wf = true) : ∃ mb, u.cell? ⟨wb, 2, none⟩ = some (.map (some mb)) ∧ ∀ ty, ∃ w', (Builtin.delete_ #[30, 3] ty #[.map (some mb), .int .i64 k]).run Tryz.prog u = .ok (.tuple #[]) w' ∧ IsW w' B wb m (rm P k) H ∧ Upd H u w' ∧ Below B u w' := by
  obtain ⟨mb, bx, hmp, hmb⟩ := h.box
  refine ⟨mb, bx.cell 2, fun ty => ?_⟩
  obtain ⟨w', hr, hm, hg⟩ := mapI_drop hmp 30 65 Tryz.underlying30 k hk ty
  have hu : Upd H u w' := ⟨hg.size, fun j hj hn => hg.block j hj (fun e => hn (by cases e; exact hmb))⟩
  have st : ∀ y, y < u.heap.size → y ≠ mb → w'.heap[y]? = u.heap[y]? := fun y hl hy => hg.block y hl (fun e => hy (by injection e))
  refine ⟨w', hr, ⟨?_, fun j hj => ?_, ?_, h.hw, fun y hy => ⟨(h.lo y hy).1, Nat.lt_of_lt_of_le (h.lo y hy).2 hg.size⟩, ⟨mb, (st _ bx.lt (fun e => hmp.noBox bx e.symm)).trans bx, ?_, hmb⟩, fun p hp => ?_⟩, hu, ⟨hg.os, hg.tape, hg.output, hg.size, fun j hj => hg.block j (Nat.lt_of_lt_of_le hj h.hB) (fun e => by cases e; have := (h.lo _ hmb).1; omega)⟩⟩
  · rw [kys_rm]; exact h.nd.filter _
  · rw [kys_rm] at hj; exact h.wf j (List.mem_filter.1 hj).1
  · exact Nat.le_trans (List.length_filter_le _ _) h.le
  · have e : (fun j => if j = k then none else (gt P j).map (·.1)) = fun j => (gt (rm P k) j).map (·.1) := funext fun j => by
      rw [gt_rm]
      split <;> rfl
    rw [e] at hm
    have := hm.tight (kys (rm P k)) (fun x => by rw [gt_some_iff]; simp)
    rwa [kys_len] at this
  · have hp' := (List.mem_filter.1 hp).1
    obtain ⟨r1, r2, r3⟩ := h.rows p hp'
    refine ⟨row_stay r1 (fun k hk => ?_), r2, r3⟩
    obtain ⟨cs, hc⟩ := ownsRow_box r1 k hk
    exact st k (Box.lt hc) (fun e => hmp.noBox hc e.symm)
end
end Go.Proofs.YtafiopjgegmfoaaGreat.W
