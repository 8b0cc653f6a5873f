/-
  New; sets of one's own, a step a call; the calls of sets that are none.
-/
import Derived.Test.YtafiopjgegmfoaaLeave
import Derived.Test.YtafiopjgegmfoaaMark
namespace Go.Proofs.Ytafiopjgegmfoaa
open Go.RowKit Go.Maps
/-- sets of one's own: all that was there ahead of w0 stands -/
def Sit {α : Type} (enc : α → Value) (tS tM : TypeId) (w0 w : World) (g : Nat) (S : SS α) : Prop := (∃ F, IsS enc tS tM w w0.heap.size g S F) ∧ Below w0.heap.size w0 w
theorem Sit.to {α : Type} {enc : α → Value} {tS tM : TypeId} {w0 w w' : World} {g : Nat} {S' : SS α} {F : Nat → Prop} (hb : Below w0.heap.size w0 w) (h : To enc tS tM w w0.heap.size g S' F w') : Sit enc tS tM w0 w' g S' :=
  ⟨⟨_, h.1⟩, hb.trans h.2.1⟩
theorem isS_new {α : Type} {enc : α → Value} {tS tM : TypeId} (w : World) (w' : World) (g rb wb : Nat) (hx : Box w' g #[ptr g, mp rb, mp wb, .slice none 0 0] tS) (hr : w'.heap[rb]? = some (.map #[] 0)) (hw : w'.heap[wb]? = some (.map #[] 0)) (h1 : w.heap.size ≤ rb) (h2 : rb < wb) (h3 : w.heap.size ≤ g) : IsS enc tS tM w' w.heap.size g ⟨[], [], []⟩ (fun x => w.heap.size ≤ x ∧ x < w'.heap.size) := by
  have lr : rb < w'.heap.size := (Array.getElem?_eq_some_iff.1 hr).1
  have lw : wb < w'.heap.size := (Array.getElem?_eq_some_iff.1 hw).1
  have mk0 : ∀ (β : Type) (e : β → Value) (b : Nat), w'.heap[b]? = some (.map #[] 0) → MapL e w' b [] := fun β e b hb => by
    obtain ⟨es, cl, h1, h2⟩ := (MapL.made (enc := e) w).clone
    have hh := heap_alloc_new w (.map #[] 0)
    rw [h1] at hh
    injection hh with hh
    injection hh with hh1 hh2
    subst hh1 hh2
    exact h2 w' b hb
  exact ⟨rb, wb, .slice none 0 0, [], {
    box := hx
    rd := mk0 _ _ _ hr
    wr := mk0 _ _ _ hw
    row := ⟨rfl, .inl ⟨rfl, rfl⟩⟩
    mks := fun p hp => by cases hp
    em := rfl
    nd := by simp; omega
    fg := ⟨h3, hx.lt⟩
    fr := ⟨h1, lr⟩
    fw := ⟨by omega, lw⟩
    fx := fun p hp => by cases hp
    fv := fun k hk => by cases hk
    fB := fun x hx => hx
    dep := by simp }⟩

theorem new_at (w : World) : Calls Try.prog 22 #[] w fun r w' => ∃ g, r = .returned (ptr g) ∧ w.heap.size ≤ g ∧ IsS encI 85 30 w' w.heap.size g ⟨[], [], []⟩ (fun x => w.heap.size ≤ x ∧ x < w'.heap.size) ∧ Below w.heap.size w w' := by
  have hmm := @run_makeMap Try.prog
  obtain ⟨w1, hw1⟩ : ∃ w1, w1 = (w.alloc (.map #[] 0)).alloc (.map #[] 0) := ⟨_, rfl⟩
  have s1 : w1.heap.size = w.heap.size + 2 := by rw [hw1]; simp
  have r1 : w1.heap[w.heap.size]? = some (.map #[] 0) := by rw [hw1]; exact (Below.heap_alloc _ _ _ (by simp)).trans (heap_alloc_new w _)
  have r2 : w1.heap[w.heap.size + 1]? = some (.map #[] 0) := by
    have := heap_alloc_new (w.alloc (.map #[] 0)) (.map #[] 0)
    rw [hw1]
    simpa using this
  have b1 : Below w.heap.size w w1 := by rw [hw1]; exact ((Below.refl _ w).alloc (Nat.le_refl _) _).alloc (by simp) _
  have x3 := Box.new w1 #[ptr w1.heap.size, mp w.heap.size, mp (w.heap.size + 1), .slice none 0 0] 85
  have KEY : Hid (w.heap.size ≤ w1.heap.size ∧ IsS encI 85 30 (w1.alloc (.cells #[ptr w1.heap.size, mp w.heap.size, mp (w.heap.size + 1), .slice none 0 0] 85)) w.heap.size w1.heap.size ⟨[], [], []⟩ (fun x => w.heap.size ≤ x ∧ x < (w1.alloc (.cells #[ptr w1.heap.size, mp w.heap.size, mp (w.heap.size + 1), .slice none 0 0] 85)).heap.size) ∧ Below w.heap.size w (w1.alloc (.cells #[ptr w1.heap.size, mp w.heap.size, mp (w.heap.size + 1), .slice none 0 0] 85))) :=
    ⟨by omega, isS_new w _ w1.heap.size w.heap.size (w.heap.size + 1) x3 ((Below.heap_alloc _ _ _ (by omega)).trans r1) ((Below.heap_alloc _ _ _ (by omega)).trans r2) (Nat.le_refl _) (by omega) (by omega), b1.alloc b1.size _⟩
  clear x3 b1 r1 r2 s1
  rw [hw1] at KEY
  clear hw1
  unfold ptr mp at *
  go_enter Try.func22, Try.ntmps22
  go_wp2
  go_ret
  exact ⟨_, rfl, by simpa using KEY.out⟩
theorem sit_new (w : World) : Calls Try.prog 22 #[] w fun r w' => ∃ g, r = .returned (ptr g) ∧ Sit encI 85 30 w w' g ⟨[], [], []⟩ :=
  (new_at w).mono fun _ _ ⟨g, h1, _, h2, h3⟩ => ⟨g, h1, ⟨_, h2⟩, h3⟩
section
variable {w0 w : World} {g : Nat} {S S' : SS Int} {n : Int}
theorem sit_write (h : Sit encI 85 30 w0 w g S) (i : Int) (x : Int) (hs : S.write i x = (n, S')) : Calls Try.prog 29 #[ptr g, .int .i64 i, encI x] w fun r w' => r = .returned (.int .i64 n) ∧ Sit encI 85 30 w0 w' g S' := by
  obtain ⟨⟨F, h⟩, hb⟩ := h
  refine (write_at h i x).mono ?_
  rintro r w' ⟨rfl, ht⟩
  rw [hs] at ht ⊢
  exact ⟨rfl, Sit.to hb ht⟩
theorem sit_read (h : Sit encI 85 30 w0 w g S) (i x : Int) (hs : S.read i x = (n, S')) : Calls Try.prog 28 #[ptr g, .int .i64 i, .int .i64 x] w fun r w' => r = .returned (.int .i64 n) ∧ Sit encI 85 30 w0 w' g S' := by
  obtain ⟨⟨F, h⟩, hb⟩ := h
  refine (read_at h i x).mono ?_
  rintro r w' ⟨rfl, ht⟩
  rw [hs] at ht ⊢
  exact ⟨rfl, Sit.to hb ht⟩
end

section
variable {w0 w : World} {g : Nat} {S S' : SS ByteArray} {n : Int}
end

section
variable {w : World} {p : Option Addr}
/-- sets that are none -/
def NoS (w : World) (p : Option Addr) : Prop := Calls Try.prog 35 #[.pointer p] w fun r w' => r = .returned (.bool false) ∧ w' = w
theorem value_no (h : NoS w p) (i : Int) : Calls Try.prog 25 #[.pointer p, .int .i64 i] w fun r w' => r = .returned (.tuple #[.int .i64 0, .bool false]) ∧ w' = w := by
  unfold NoS at h
  go_enter Try.func25, Try.ntmps25
  go_wp2_with (go_at_call 35; refine h.mono ?_; rintro e w1 ⟨rfl, rfl⟩)
  go_ret2
  simp
theorem seen_no (h : NoS w p) (i : Int) : Calls Try.prog 36 #[.pointer p, .int .i64 i] w fun r w' => r = .returned (.tuple #[.int .i64 0, .bool false]) ∧ w' = w := by
  unfold NoS at h
  go_enter Try.func36, Try.ntmps36
  go_wp2_with (go_at_call 35; refine h.mono ?_; rintro e w1 ⟨rfl, rfl⟩)
  go_ret2
  simp
theorem read_no (h : NoS w p) (i : Int) (x : Int) : Calls Try.prog 28 #[.pointer p, .int .i64 i, .int .i64 x] w fun r w' => r = .returned (.int .i64 1) ∧ w' = w := by
  unfold NoS at h
  go_enter Try.func28, Try.ntmps28
  go_wp2_with (go_at_call 35; refine h.mono ?_; rintro e w1 ⟨rfl, rfl⟩)
  go_ret
  simp
theorem write_no (h : NoS w p) (i : Int) (x : Int) : Calls Try.prog 29 #[.pointer p, .int .i64 i, .int .i64 x] w fun r w' => r = .returned (.int .i64 1) ∧ w' = w := by
  unfold NoS at h
  go_enter Try.func29, Try.ntmps29
  go_wp2_with (go_at_call 35; refine h.mono ?_; rintro e w1 ⟨rfl, rfl⟩)
  go_ret
  simp
theorem reads_no (h : NoS w p) : Calls Try.prog 47 #[.pointer p] w fun r w' => r = .returned (.slice none 0 0) ∧ w' = w := by
  unfold NoS at h
  go_enter Try.func47, Try.ntmps47
  go_wp2_with (go_at_call 35; refine h.mono ?_; rintro e w1 ⟨rfl, rfl⟩)
  go_ret
  simp
theorem writes_no (h : NoS w p) : Calls Try.prog 40 #[.pointer p] w fun r w' => r = .returned (.slice none 0 0) ∧ w' = w := by
  unfold NoS at h
  go_enter Try.func40, Try.ntmps40
  go_wp2_with (go_at_call 35; refine h.mono ?_; rintro e w1 ⟨rfl, rfl⟩)
  go_ret
  simp
end
end Go.Proofs.Ytafiopjgegmfoaa
