/-
  Sets' Write and New, over entries.
-/
import Derived.Test.YtlbjalodjcajfaaGreatSts
namespace Go.Proofs.YtlbjalodjcajfaaGreat
open Go.RowKit Go.Maps
theorem To.base {α : Type} {enc : α → Value} {tS tM : TypeId} {w u w' : World} {B g : Nat} {S : SS α} {F : Nat → Prop} (hb : Below w.heap.size w u) (hB : B ≤ w.heap.size) (k : To enc tS tM u B g S F w') : To enc tS tM w B g S F w' :=
  ⟨k.1.wide (fun x hx => hx.imp id (fun h => ⟨Nat.le_trans hb.size h.1, h.2⟩)) (fun x hx => by
    rcases hx with hx | hx
    · exact k.1.fB x (.inl hx)
    · exact ⟨Nat.le_trans hB hx.1, hx.2⟩), (Below.mono hb hB).trans k.2.1, Nat.le_trans hb.size k.2.2.1, fun x hx hn => (k.2.2.2 x (Nat.lt_of_lt_of_le hx hb.size) hn).trans (hb.block x hx)⟩
set_option maxRecDepth 100000 in
set_option maxHeartbeats 1000000 in
theorem swrite_at {w : World} {B g : Nat} {S : SS En} {F : Nat → Prop} (h : IsS ag 93 91 w B g S F) (i : Int) (x : En) (h1 : 0 ≤ i ∧ i < 1024) (hcap : (gt S.W i).isSome = true ∨ S.W.length < 256) :
    Calls Tryz.prog 67 #[ptr g, .int .i64 i, ag x] w fun r w' => r = .returned (.int .i64 0) ∧ To ag 93 91 w B g { S with W := pt S.W i x } F w' := by
  have hbx : Below w.heap.size w (w.alloc (.cells #[.bool x.u, .string x.k, .string x.v] 28)) := (Below.refl _ w).alloc (Nat.le_refl _) _
  have hB := h.Ble
  have HU : Hid (∃ wb : Nat, ∀ u, Below w.heap.size w u → u.cell? ⟨g, 2, none⟩ = some (mp wb) ∧ (∀ ty, (Builtin.len_ #[90] ty #[.map (some wb)]).run Tryz.prog u = .ok (.int .i64 (S.W.length : Int)) u) ∧ ∃ w', (Instr.mapUpdate 90 (mp wb) (.int .i64 i) (ag x)).run Tryz.prog u = .ok () w' ∧ To ag 93 91 w B g { S with W := pt S.W i x } F w') := by
    obtain ⟨rb, wb, v, X, h⟩ := h
    refine ⟨wb, fun u hu => ?_⟩
    have h' : IsA ag 93 91 u B g S F rb wb v X := h.stay hu.size (fun y hy => hu.block y (h.fB y hy).2)
    obtain ⟨w', hr, hm, hg⟩ := h'.wr.update 90 28 Tryz.underlying90 i h1 x hcap
    exact ⟨h'.box.cell 2, h'.wr.len 90 28 Tryz.underlying90, w', hr, To.base hu hB (h'.writes hg hm)⟩
  obtain ⟨wb, HU⟩ := HU.out
  have HU := hid HU
  obtain ⟨rb, wb2, v, X, h⟩ := h.below hbx
  have c := madeS h.box
  have ci := isCell_in (w.alloc (.cells #[.bool x.u, .string x.k, .string x.v] 28)) i h1
  have c2 : (w.alloc (.cells #[.bool x.u, .string x.k, .string x.v] 28)).cell? ⟨g, 2, none⟩ = some (mp wb) := (HU.out _ hbx).1
  have e2 : wb2 = wb := by have := (h.box.cell 2).symm.trans c2; simpa [mp] using this
  subst e2
  have hl := h.wr.look 90 28 E0 Tryz.underlying90 Tryz.zeroValue28 i (cell_wf h1)
  obtain ⟨⟨yu, yk, yv⟩, hy⟩ : ∃ y, y = (gt S.W i).getD E0 := ⟨_, rfl⟩
  rw [← hy] at hl
  clear hy hbx
  obtain ⟨xu, xk, xv⟩ := x
  simp only at *
  have hcap' : (gt S.W i).isSome = true ∨ ((gt S.W i).isSome = false ∧ ¬ (256 : Int) ≤ (S.W.length : Int)) := by
    cases hb : (gt S.W i).isSome with
    | true => exact .inl rfl
    | false => rw [hb] at hcap; simp at hcap; exact .inr ⟨rfl, by omega⟩
  clear h hcap
  unfold ptr mp ag at *
  rcases hcap' with hc | ⟨hc, hc2⟩
  · rw [hc] at hl
    clear hc
    have c22 := (HU.out ((w.alloc (.cells #[.bool xu, .string xk, .string xv] 28)).alloc (.cells #[.bool yu, .string yk, .string yv] 28)) (((Below.refl _ w).alloc (Nat.le_refl _) _).alloc (by simp) _)).1
    have hln := (HU.out ((w.alloc (.cells #[.bool xu, .string xk, .string xv] 28)).alloc (.cells #[.bool yu, .string yk, .string yv] 28)) (((Below.refl _ w).alloc (Nat.le_refl _) _).alloc (by simp) _)).2.1
    unfold mp at *
    go_enter Tryz.func67, Tryz.ntmps67
    go_wp2_with (first | (go_at_call 68; refine c.mono ?_; rintro e w1 ⟨rfl, hwx⟩; subst w1) | (go_at_call 78; refine ci.mono ?_; rintro e w1 ⟨rfl, hwx⟩; subst w1))
    obtain ⟨f2, _, w', hr, ht⟩ := HU.out (((w.alloc (.cells #[.bool xu, .string xk, .string xv] 28)).alloc (.cells #[.bool yu, .string yk, .string yv] 28)).drew) (((Below.refl _ w).alloc (Nat.le_refl _) _).alloc (by simp) _).drew
    have d0 : ((w.alloc (.cells #[.bool xu, .string xk, .string xv] 28)).alloc (.cells #[.bool yu, .string yk, .string yv] 28)).cell? ⟨w.heap.size, 0, none⟩ = some (.bool xu) := (((Box.new w #[.bool xu, .string xk, .string xv] 28).alloc _).cell 0)
    have d1 : ((w.alloc (.cells #[.bool xu, .string xk, .string xv] 28)).alloc (.cells #[.bool yu, .string yk, .string yv] 28)).cell? ⟨w.heap.size, 1, none⟩ = some (.string xk) := (((Box.new w #[.bool xu, .string xk, .string xv] 28).alloc _).cell 1)
    have d2 : ((w.alloc (.cells #[.bool xu, .string xk, .string xv] 28)).alloc (.cells #[.bool yu, .string yk, .string yv] 28)).cell? ⟨w.heap.size, 2, none⟩ = some (.string xv) := (((Box.new w #[.bool xu, .string xk, .string xv] 28).alloc _).cell 2)
    have HT := hid ht
    clear ht HU hl c ci
    unfold ptr at *
    go_region
    go_wp2
    go_ret
    exact ⟨rfl, HT.out⟩
  · rw [hc] at hl
    clear hc
    have c22 := (HU.out ((w.alloc (.cells #[.bool xu, .string xk, .string xv] 28)).alloc (.cells #[.bool yu, .string yk, .string yv] 28)) (((Below.refl _ w).alloc (Nat.le_refl _) _).alloc (by simp) _)).1
    have hln := (HU.out ((w.alloc (.cells #[.bool xu, .string xk, .string xv] 28)).alloc (.cells #[.bool yu, .string yk, .string yv] 28)) (((Below.refl _ w).alloc (Nat.le_refl _) _).alloc (by simp) _)).2.1
    unfold mp at *
    go_enter Tryz.func67, Tryz.ntmps67
    go_wp2_with (first | (go_at_call 68; refine c.mono ?_; rintro e w1 ⟨rfl, hwx⟩; subst w1) | (go_at_call 78; refine ci.mono ?_; rintro e w1 ⟨rfl, hwx⟩; subst w1))
    obtain ⟨f2, _, w', hr, ht⟩ := HU.out (((w.alloc (.cells #[.bool xu, .string xk, .string xv] 28)).alloc (.cells #[.bool yu, .string yk, .string yv] 28)).drew) (((Below.refl _ w).alloc (Nat.le_refl _) _).alloc (by simp) _).drew
    have d0 : ((w.alloc (.cells #[.bool xu, .string xk, .string xv] 28)).alloc (.cells #[.bool yu, .string yk, .string yv] 28)).cell? ⟨w.heap.size, 0, none⟩ = some (.bool xu) := (((Box.new w #[.bool xu, .string xk, .string xv] 28).alloc _).cell 0)
    have d1 : ((w.alloc (.cells #[.bool xu, .string xk, .string xv] 28)).alloc (.cells #[.bool yu, .string yk, .string yv] 28)).cell? ⟨w.heap.size, 1, none⟩ = some (.string xk) := (((Box.new w #[.bool xu, .string xk, .string xv] 28).alloc _).cell 1)
    have d2 : ((w.alloc (.cells #[.bool xu, .string xk, .string xv] 28)).alloc (.cells #[.bool yu, .string yk, .string yv] 28)).cell? ⟨w.heap.size, 2, none⟩ = some (.string xv) := (((Box.new w #[.bool xu, .string xk, .string xv] 28).alloc _).cell 2)
    have HT := hid ht
    clear ht HU hl c ci
    unfold ptr at *
    go_region
    go_wp2
    go_ret
    exact ⟨rfl, HT.out⟩
theorem isS_new {α : Type} {enc : α → Value} {tS tM : TypeId} (w : World) (w' : World) (g rb wb : Nat) (hx : Box w' g #[ptr g, mp rb, mp wb, .slice none 0 0] tS) (hr : w'.heap[rb]? = some (.map #[] 0)) (hw : w'.heap[wb]? = some (.map #[] 0)) (h1 : w.heap.size ≤ rb) (h2 : rb < wb) (h3 : w.heap.size ≤ g) : IsS enc tS tM w' w.heap.size g ⟨[], [], []⟩ (fun x => w.heap.size ≤ x ∧ x < w'.heap.size) := by
  have lr : rb < w'.heap.size := (Array.getElem?_eq_some_iff.1 hr).1
  have lw : wb < w'.heap.size := (Array.getElem?_eq_some_iff.1 hw).1
  have mk0 : ∀ (β : Type) (e : β → Value) (b : Nat), w'.heap[b]? = some (.map #[] 0) → MapL e w' b [] := fun β e b hb => by
    obtain ⟨es, cl, h1, h2⟩ := (MapL.made (enc := e) w).clone
    have hh := heap_alloc_new w (.map #[] 0)
    rw [h1] at hh
    injection hh with hh
    injection hh with hh1 hh2
    subst hh1 hh2
    exact h2 w' b hb
  exact ⟨rb, wb, .slice none 0 0, [], {
    box := hx
    rd := mk0 _ _ _ hr
    wr := mk0 _ _ _ hw
    row := ⟨rfl, .inl ⟨rfl, rfl⟩⟩
    mks := fun p hp => by cases hp
    em := rfl
    nd := by simp; omega
    fg := ⟨h3, hx.lt⟩
    fr := ⟨h1, lr⟩
    fw := ⟨by omega, lw⟩
    fx := fun p hp => by cases hp
    fv := fun k hk => by cases hk
    fB := fun x hx => hx
    dep := by simp }⟩
theorem snew_at (w : World) : Calls Tryz.prog 18 #[] w fun r w' => ∃ g, r = .returned (ptr g) ∧ w.heap.size ≤ g ∧ IsS ag 93 91 w' w.heap.size g ⟨[], [], []⟩ (fun x => w.heap.size ≤ x ∧ x < w'.heap.size) ∧ Below w.heap.size w w' := by
  have hmm := @run_makeMap Tryz.prog
  obtain ⟨w1, hw1⟩ : ∃ w1, w1 = (w.alloc (.map #[] 0)).alloc (.map #[] 0) := ⟨_, rfl⟩
  have s1 : w1.heap.size = w.heap.size + 2 := by rw [hw1]; simp
  have r1 : w1.heap[w.heap.size]? = some (.map #[] 0) := by rw [hw1]; exact (Below.heap_alloc _ _ _ (by simp)).trans (heap_alloc_new w _)
  have r2 : w1.heap[w.heap.size + 1]? = some (.map #[] 0) := by
    have := heap_alloc_new (w.alloc (.map #[] 0)) (.map #[] 0)
    rw [hw1]
    simpa using this
  have b1 : Below w.heap.size w w1 := by rw [hw1]; exact ((Below.refl _ w).alloc (Nat.le_refl _) _).alloc (by simp) _
  have x3 := Box.new w1 #[ptr w1.heap.size, mp w.heap.size, mp (w.heap.size + 1), .slice none 0 0] 93
  have KEY : Hid (w.heap.size ≤ w1.heap.size ∧ IsS ag 93 91 (w1.alloc (.cells #[ptr w1.heap.size, mp w.heap.size, mp (w.heap.size + 1), .slice none 0 0] 93)) w.heap.size w1.heap.size ⟨[], [], []⟩ (fun x => w.heap.size ≤ x ∧ x < (w1.alloc (.cells #[ptr w1.heap.size, mp w.heap.size, mp (w.heap.size + 1), .slice none 0 0] 93)).heap.size) ∧ Below w.heap.size w (w1.alloc (.cells #[ptr w1.heap.size, mp w.heap.size, mp (w.heap.size + 1), .slice none 0 0] 93))) :=
    ⟨by omega, isS_new w _ w1.heap.size w.heap.size (w.heap.size + 1) x3 ((Below.heap_alloc _ _ _ (by omega)).trans r1) ((Below.heap_alloc _ _ _ (by omega)).trans r2) (Nat.le_refl _) (by omega) (by omega), b1.alloc b1.size _⟩
  clear x3 b1 r1 r2 s1
  rw [hw1] at KEY
  clear hw1
  unfold ptr mp at *
  go_enter Tryz.func18, Tryz.ntmps18
  go_wp2
  go_ret
  exact ⟨_, rfl, by simpa using KEY.out⟩
end Go.Proofs.YtlbjalodjcajfaaGreat
