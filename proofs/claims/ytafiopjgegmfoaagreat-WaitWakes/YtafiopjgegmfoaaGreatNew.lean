/-
  New; sets of one's own, a step a call; the calls of sets that are none.
-/
import Derived.Test.YtafiopjgegmfoaaGreatLeave
import Derived.Test.YtafiopjgegmfoaaGreatMark
namespace Go.Proofs.YtafiopjgegmfoaaGreat
open Go.RowKit Go.Maps
/-- sets of one's own: all that was there ahead of w0 stands -/
def Sit {α : Type} (enc : α → Value) (tS tM : TypeId) (w0 w : World) (g : Nat) (S : SS α) : Prop := (∃ F, IsS enc tS tM w w0.heap.size g S F) ∧ Below w0.heap.size w0 w
theorem Sit.to {α : Type} {enc : α → Value} {tS tM : TypeId} {w0 w w' : World} {g : Nat} {S' : SS α} {F : Nat → Prop} (hb : Below w0.heap.size w0 w) (h : To enc tS tM w w0.heap.size g S' F w') : Sit enc tS tM w0 w' g S' :=
  ⟨⟨_, h.1⟩, hb.trans h.2.1⟩
theorem isS_new {α : Type} {enc : α → Value} {tS tM : TypeId} (w : World) (w' : World) (g rb wb : Nat) (hx : Box w' g #[ptr g, mp rb, mp wb, .slice none 0 0] tS) (hr : w'.heap[rb]? = some (.map #[] 0)) (hw : w'.heap[wb]? = some (.map #[] 0)) (h1 : w.heap.size ≤ rb) (h2 : rb < wb) (h3 : w.heap.size ≤ g) : IsS enc tS tM w' w.heap.size g ⟨[], [], []⟩ (fun x => w.heap.size ≤ x ∧ x < w'.heap.size) := by
  have lr : rb < w'.heap.size := (Array.getElem?_eq_some_iff.1 hr).1
  have lw : wb < w'.heap.size := (Array.getElem?_eq_some_iff.1 hw).1
  have mk0 : ∀ (β : Type) (e : β → Value) (b : Nat), w'.heap[b]? = some (.map #[] 0) → MapL e w' b [] := fun β e b hb => by
    obtain ⟨es, cl, h1, h2⟩ := (MapL.made (enc := e) w).clone
    have hh := heap_alloc_new w (.map #[] 0)
    rw [h1] at hh
    injection hh with hh
    injection hh with hh1 hh2
    subst hh1 hh2
    exact h2 w' b hb
  exact ⟨rb, wb, .slice none 0 0, [], {
    box := hx
    rd := mk0 _ _ _ hr
    wr := mk0 _ _ _ hw
    row := ⟨rfl, .inl ⟨rfl, rfl⟩⟩
    mks := fun p hp => by cases hp
    em := rfl
    nd := by simp; omega
    fg := ⟨h3, hx.lt⟩
    fr := ⟨h1, lr⟩
    fw := ⟨by omega, lw⟩
    fx := fun p hp => by cases hp
    fv := fun k hk => by cases hk
    fB := fun x hx => hx
    dep := by simp }⟩

theorem new_at (w : World) : Calls Tryz.prog 29 #[] w fun r w' => ∃ g, r = .returned (ptr g) ∧ w.heap.size ≤ g ∧ IsS encI 88 85 w' w.heap.size g ⟨[], [], []⟩ (fun x => w.heap.size ≤ x ∧ x < w'.heap.size) ∧ Below w.heap.size w w' := by
  have hmm := @run_makeMap Tryz.prog
  obtain ⟨w1, hw1⟩ : ∃ w1, w1 = (w.alloc (.map #[] 0)).alloc (.map #[] 0) := ⟨_, rfl⟩
  have s1 : w1.heap.size = w.heap.size + 2 := by rw [hw1]; simp
  have r1 : w1.heap[w.heap.size]? = some (.map #[] 0) := by rw [hw1]; exact (Below.heap_alloc _ _ _ (by simp)).trans (heap_alloc_new w _)
  have r2 : w1.heap[w.heap.size + 1]? = some (.map #[] 0) := by
    have := heap_alloc_new (w.alloc (.map #[] 0)) (.map #[] 0)
    rw [hw1]
    simpa using this
  have b1 : Below w.heap.size w w1 := by rw [hw1]; exact ((Below.refl _ w).alloc (Nat.le_refl _) _).alloc (by simp) _
  have x3 := Box.new w1 #[ptr w1.heap.size, mp w.heap.size, mp (w.heap.size + 1), .slice none 0 0] 88
  have KEY : Hid (w.heap.size ≤ w1.heap.size ∧ IsS encI 88 85 (w1.alloc (.cells #[ptr w1.heap.size, mp w.heap.size, mp (w.heap.size + 1), .slice none 0 0] 88)) w.heap.size w1.heap.size ⟨[], [], []⟩ (fun x => w.heap.size ≤ x ∧ x < (w1.alloc (.cells #[ptr w1.heap.size, mp w.heap.size, mp (w.heap.size + 1), .slice none 0 0] 88)).heap.size) ∧ Below w.heap.size w (w1.alloc (.cells #[ptr w1.heap.size, mp w.heap.size, mp (w.heap.size + 1), .slice none 0 0] 88))) :=
    ⟨by omega, isS_new w _ w1.heap.size w.heap.size (w.heap.size + 1) x3 ((Below.heap_alloc _ _ _ (by omega)).trans r1) ((Below.heap_alloc _ _ _ (by omega)).trans r2) (Nat.le_refl _) (by omega) (by omega), b1.alloc b1.size _⟩
  clear x3 b1 r1 r2 s1
  rw [hw1] at KEY
  clear hw1
  unfold ptr mp at *
  go_enter Tryz.func29, Tryz.ntmps29
  go_wp2
  go_ret
  exact ⟨_, rfl, by simpa using KEY.out⟩
theorem sit_new (w : World) : Calls Tryz.prog 29 #[] w fun r w' => ∃ g, r = .returned (ptr g) ∧ Sit encI 88 85 w w' g ⟨[], [], []⟩ :=
  (new_at w).mono fun _ _ ⟨g, h1, _, h2, h3⟩ => ⟨g, h1, ⟨_, h2⟩, h3⟩
section
variable {w0 w : World} {g : Nat} {S S' : SS Int} {n : Int}
theorem sit_write (h : Sit encI 88 85 w0 w g S) (i : Int) (x : Int) (hs : S.write i x = (n, S')) : Calls Tryz.prog 52 #[ptr g, .int .i64 i, encI x] w fun r w' => r = .returned (.int .i64 n) ∧ Sit encI 88 85 w0 w' g S' := by
  obtain ⟨⟨F, h⟩, hb⟩ := h
  refine (write_at h i x).mono ?_
  rintro r w' ⟨rfl, ht⟩
  rw [hs] at ht ⊢
  exact ⟨rfl, Sit.to hb ht⟩
theorem sit_read (h : Sit encI 88 85 w0 w g S) (i x : Int) (hs : S.read i x = (n, S')) : Calls Tryz.prog 48 #[ptr g, .int .i64 i, .int .i64 x] w fun r w' => r = .returned (.int .i64 n) ∧ Sit encI 88 85 w0 w' g S' := by
  obtain ⟨⟨F, h⟩, hb⟩ := h
  refine (read_at h i x).mono ?_
  rintro r w' ⟨rfl, ht⟩
  rw [hs] at ht ⊢
  exact ⟨rfl, Sit.to hb ht⟩
theorem sit_mark (h : Sit encI 88 85 w0 w g S) (hs : S.mark = (n, S')) : Calls Tryz.prog 73 #[ptr g] w fun r w' => r = .returned (.int .i64 n) ∧ Sit encI 88 85 w0 w' g S' := by
  obtain ⟨⟨F, h⟩, hb⟩ := h
  refine (mark_at h).mono ?_
  rintro r w' ⟨rfl, ht⟩
  rw [hs] at ht ⊢
  exact ⟨rfl, Sit.to hb ht⟩
theorem sit_keep (h : Sit encI 88 85 w0 w g S) (hs : S.keep = (n, S')) : Calls Tryz.prog 101 #[ptr g] w fun r w' => r = .returned (.int .i64 n) ∧ Sit encI 88 85 w0 w' g S' := by
  obtain ⟨⟨F, h⟩, hb⟩ := h
  refine (keep_at h).mono ?_
  rintro r w' ⟨rfl, ht⟩
  rw [hs] at ht ⊢
  exact ⟨rfl, Sit.to hb ht⟩
theorem sit_undo (h : Sit encI 88 85 w0 w g S) (hs : S.undo = (n, S')) : Calls Tryz.prog 102 #[ptr g] w fun r w' => r = .returned (.int .i64 n) ∧ Sit encI 88 85 w0 w' g S' := by
  obtain ⟨⟨F, h⟩, hb⟩ := h
  refine (undo_at h).mono ?_
  rintro r w' ⟨rfl, ht⟩
  rw [hs] at ht ⊢
  exact ⟨rfl, Sit.to hb ht⟩
end

section
variable {w0 w : World} {g : Nat} {S S' : SS ByteArray} {n : Int}
end

section
variable {w : World} {p : Option Addr}
/-- sets that are none -/
def NoS (w : World) (p : Option Addr) : Prop := Calls Tryz.prog 62 #[.pointer p] w fun r w' => r = .returned (.bool false) ∧ w' = w
theorem value_no (h : NoS w p) (i : Int) : Calls Tryz.prog 44 #[.pointer p, .int .i64 i] w fun r w' => r = .returned (.tuple #[.int .i64 0, .bool false]) ∧ w' = w := by
  unfold NoS at h
  go_enter Tryz.func44, Tryz.ntmps44
  go_wp2_with (go_at_call 62; refine h.mono ?_; rintro e w1 ⟨rfl, rfl⟩)
  go_ret2
  simp
theorem seen_no (h : NoS w p) (i : Int) : Calls Tryz.prog 64 #[.pointer p, .int .i64 i] w fun r w' => r = .returned (.tuple #[.int .i64 0, .bool false]) ∧ w' = w := by
  unfold NoS at h
  go_enter Tryz.func64, Tryz.ntmps64
  go_wp2_with (go_at_call 62; refine h.mono ?_; rintro e w1 ⟨rfl, rfl⟩)
  go_ret2
  simp
theorem read_no (h : NoS w p) (i : Int) (x : Int) : Calls Tryz.prog 48 #[.pointer p, .int .i64 i, .int .i64 x] w fun r w' => r = .returned (.int .i64 1) ∧ w' = w := by
  unfold NoS at h
  go_enter Tryz.func48, Tryz.ntmps48
  go_wp2_with (go_at_call 62; refine h.mono ?_; rintro e w1 ⟨rfl, rfl⟩)
  go_ret
  simp
theorem write_no (h : NoS w p) (i : Int) (x : Int) : Calls Tryz.prog 52 #[.pointer p, .int .i64 i, .int .i64 x] w fun r w' => r = .returned (.int .i64 1) ∧ w' = w := by
  unfold NoS at h
  go_enter Tryz.func52, Tryz.ntmps52
  go_wp2_with (go_at_call 62; refine h.mono ?_; rintro e w1 ⟨rfl, rfl⟩)
  go_ret
  simp
theorem mark_no (h : NoS w p) : Calls Tryz.prog 73 #[.pointer p] w fun r w' => r = .returned (.int .i64 1) ∧ w' = w := by
  unfold NoS at h
  go_enter Tryz.func73, Tryz.ntmps73
  go_wp2_with (go_at_call 62; refine h.mono ?_; rintro e w1 ⟨rfl, rfl⟩)
  go_ret
  simp
theorem depth_no (h : NoS w p) : Calls Tryz.prog 54 #[.pointer p] w fun r w' => r = .returned (.int .i64 0) ∧ w' = w := by
  unfold NoS at h
  go_enter Tryz.func54, Tryz.ntmps54
  go_wp2_with (go_at_call 62; refine h.mono ?_; rintro e w1 ⟨rfl, rfl⟩)
  go_ret
  simp
theorem reads_no (h : NoS w p) : Calls Tryz.prog 69 #[.pointer p] w fun r w' => r = .returned (.slice none 0 0) ∧ w' = w := by
  unfold NoS at h
  go_enter Tryz.func69, Tryz.ntmps69
  go_wp2_with (go_at_call 62; refine h.mono ?_; rintro e w1 ⟨rfl, rfl⟩)
  go_ret
  simp
theorem leave_no (h : NoS w p) : Calls Tryz.prog 105 #[.pointer p] w fun r w' => r = .returned (.tuple #[.map none, .int .i64 1]) ∧ w' = w := by
  unfold NoS at h
  go_enter Tryz.func105, Tryz.ntmps105
  go_wp2_with (go_at_call 62; refine h.mono ?_; rintro e w1 ⟨rfl, rfl⟩)
  go_ret2
  simp
theorem keep_no (h : NoS w p) : Calls Tryz.prog 101 #[.pointer p] w fun r w' => r = .returned (.int .i64 1) ∧ w' = w := by
  have c := leave_no h
  go_enter Tryz.func101, Tryz.ntmps101
  go_wp2_with (go_at_call 105; refine c.mono ?_; rintro e w1 ⟨rfl, rfl⟩)
  go_ret
  simp
theorem undo_no (h : NoS w p) : Calls Tryz.prog 102 #[.pointer p] w fun r w' => r = .returned (.int .i64 1) ∧ w' = w := by
  have c := leave_no h
  go_enter Tryz.func102, Tryz.ntmps102
  go_wp2_with (go_at_call 105; refine c.mono ?_; rintro e w1 ⟨rfl, rfl⟩)
  go_ret
  simp
end
end Go.Proofs.YtafiopjgegmfoaaGreat
