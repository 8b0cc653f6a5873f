/-
  Begin, Write, Mark, Keep, Undo, Abort, Reads, Writes of a transaction.
-/
import Derived.Test.YtafiopjgegmfoaaGreatTFail
import Derived.Test.YtafiopjgegmfoaaGreatCNone
namespace Go.Proofs.YtafiopjgegmfoaaGreat.T
open Go.RowKit Go.Proofs.YtafiopjgegmfoaaGreat.C

theorem drewN {α : Type} {enc : α → Value} {tS tM : TypeId} {w w' : World} {B g q : Nat} {S : SS α} {F : Nat → Prop} (h : To enc tS tM (w.drewN q) B g S F w') : To enc tS tM w B g S F w' :=
  ⟨h.1.wide (fun _ hx => hx) (fun x hx => h.1.fB x hx), ⟨h.2.1.os, h.2.1.tape, h.2.1.output, h.2.1.size, h.2.1.block⟩, h.2.2.1, h.2.2.2⟩
theorem begin_nil {w : World} {v : Value} (h : C.NoM w v) (o : Int) : Calls Tryz.prog 8 #[v, .int .i64 o] w fun r w' => r = .returned (.tuple #[.pointer none, .int .i64 1]) ∧ w' = w := by
  have c := C.size_none h
  clear h
  go_enter Tryz.func8, Tryz.ntmps8
  go_wp2_with (go_at_call 27; refine c.mono ?_; rintro e w' ⟨rfl, rfl⟩)
  go_ret2
  simp
theorem begin_arg {w : World} {B m gm : Nat} {S : M} (h : MM w B m gm S) (o : Int) (ho : o < 1) : Calls Tryz.prog 8 #[ptr m, .int .i64 o] w fun r w' => r = .returned (.tuple #[.pointer none, .int .i64 2]) ∧ w' = w := by
  have c := C.size_at h.is
  have hn := h.is.rt.n1
  generalize S.C.length = n at *
  have h0 : ¬ (n : Int) = 0 := by omega
  have h0' : ((n : Int) == 0) = false := by simpa using h0
  clear h
  unfold ptr at *
  go_enter Tryz.func8, Tryz.ntmps8
  go_wp2_with (go_at_call 27; refine c.mono ?_; rintro e w' ⟨rfl, rfl⟩)
  go_ret2
  simp
set_option maxRecDepth 100000 in
set_option maxHeartbeats 1000000 in
theorem begin_at {w : World} {B m gm : Nat} {S : M} (h : MM w B m gm S) (o : Int) (ho : 1 ≤ o) (ho2 : o < 9223372036854775808) : Calls Tryz.prog 8 #[ptr m, .int .i64 o] w fun r w' => ∃ g, r = .returned (.tuple #[ptr g, .int .i64 0]) ∧ IsX w' w.heap.size g m (X0 o S.k) (fun x => w.heap.size ≤ x ∧ x < w'.heap.size) ∧ Below w.heap.size w w' := by
  have c := C.size_at h.is
  have ck := C.clock_at h.is
  have cn := new_at w
  have hn := h.is.rt.n1
  generalize S.C.length = n at *
  generalize S.k = k at *
  have h0 : ¬ (n : Int) = 0 := by omega
  have h0' : ((n : Int) == 0) = false := by simpa using h0
  have h1 : ¬ o < 1 := by omega
  clear h hn h0
  unfold ptr at *
  go_enter Tryz.func8, Tryz.ntmps8
  go_wp2_with (first | (go_at_call 27; refine c.mono ?_; rintro e wx ⟨rfl, hwx⟩; subst wx) | (go_at_call 28; refine ck.mono ?_; rintro e wx ⟨rfl, hwx⟩; subst wx))
  refine cn.mono ?_
  rintro e w1 ⟨s, rfl, hs, hS, hb⟩
  have HSS : Hid (IsS encI 88 85 w1 w.heap.size s ⟨[], [], []⟩ (fun x => w.heap.size ≤ x ∧ x < w1.heap.size)) := hS
  have HB : Hid (Below w.heap.size w w1) := hb
  clear hS hb cn c ck hs
  unfold ptr at *
  go_wp2_with fail
  go_ret2
  obtain ⟨o', ho'⟩ : ∃ o', o' = Obj.cells #[.pointer (some ⟨w1.heap.size, 0, none⟩), .pointer (some ⟨m, 0, none⟩), .int .i64 o, .int .i64 k, .pointer (some ⟨s, 0, none⟩), .int .u8 1, .slice none 0 0, .int .i64 0, .bool false] 63 := ⟨_, rfl⟩
  rw [← ho']
  have hsz := HB.out.size
  have B1 : Box (w1.alloc o') w1.heap.size (cells w1.heap.size m s (.slice none 0 0) (X0 o k)) 63 := by rw [ho']; exact Box.new w1 _ 63
  have st : ∀ x, x < w1.heap.size → (w1.alloc o').heap[x]? = w1.heap[x]? := fun x hx => Below.heap_alloc w1 _ x hx
  have hsz2 : (w1.alloc o').heap.size = w1.heap.size + 1 := by simp
  refine ⟨w1.heap.size, by simp, ⟨s, .slice none 0 0, fun x => w.heap.size ≤ x ∧ x < w1.heap.size, fun x => x = w1.heap.size, ?_⟩, ?_⟩
  · exact
      { box := B1
        sets := HSS.out.stay (by rw [hsz2]; omega) (fun x hx => st x hx.2)
        left := LeftAt.nil _ _ _ _ _
        ok := ⟨⟨ho, ho2⟩, .inl rfl, by simp [X0], by simp [X0]⟩
        qg := rfl
        pq := fun x p q => by omega
        fF := fun x => by rw [hsz2]; constructor <;> intro h <;> omega
        fB := fun x hx => hx }
  · exact ⟨HB.out.os, HB.out.tape, HB.out.output, by rw [hsz2]; omega, fun x hx => (st x (by omega)).trans (HB.out.block x hx)⟩
theorem write_at {w : World} {B g m gm : Nat} {S : M} {X : TX} {F : Nat → Prop} (hM : MM w B m gm S) (hX : IsX w B g m X F) (hm : ¬ F m) (hgm : ¬ F gm) (i v : Int) : Calls Tryz.prog 24 #[ptr g, .int .i64 i, .int .i64 v] w fun r w' => r = .returned (.int .i64 (X.write S i v).1) ∧ ToX w B g m gm S (X.write S i v).2 F w' := by
  have H0 : Hid (ToX w B g m gm S X F w) := ToX.refl hM hX
  obtain ⟨s, lv, P, Q, h⟩ := hX
  have c := mayGo_at h.box h.ok
  by_cases h1 : X.st ≠ 1
  · have e : X.write S i v = (132, X) := by unfold TX.write; rw [if_pos h1]
    rw [e]
    rw [if_pos h1] at c
    clear h hM e
    unfold ptr at *
    go_enter Tryz.func24, Tryz.ntmps24
    go_wp2_with (go_at_call 43; refine c.mono ?_; rintro e w' ⟨rfl, rfl⟩)
    go_ret
    exact ⟨rfl, H0.out⟩
  rw [if_neg h1] at c
  have c1 : w.cell? ⟨g, 1, none⟩ = some (ptr m) := h.box.cell 1
  have cl := C.load_at hM.is i
  cases hc : S.cell? i with
  | none =>
    have e : X.write S i v = (2, X) := by unfold TX.write; rw [if_neg h1, hc]
    have el : M.load S i = (.int .i64 0, 0, 0, 2) := by simp [M.load, hc]
    rw [el] at cl
    rw [e]
    clear h hM e el hc
    unfold ptr at *
    go_enter Tryz.func24, Tryz.ntmps24
    go_wp2_with (first | (go_at_call 43; refine c.mono ?_; rintro e w' ⟨rfl, rfl⟩) | (go_at_call 45; refine cl.mono ?_; rintro e w' ⟨rfl, q, rfl⟩))
    go_ret
    exact ⟨rfl, H0.out.drew q⟩
  | some x =>
    have e : X.write S i v = ((X.S.write i v).1, { X with S := (X.S.write i v).2 }) := by unfold TX.write; rw [if_neg h1, hc]
    have el : M.load S i = (x.v, x.ver, x.own, 0) := by simp [M.load, hc]
    rw [el] at cl
    rw [e]
    have c4 : ∀ q, (w.drewN q).cell? ⟨g, 4, none⟩ = some (ptr s) := fun q => h.box.cell 4
    have cw : ∀ q, Calls Tryz.prog 52 #[ptr s, .int .i64 i, .int .i64 v] (w.drewN q) fun r w' => r = .returned (.int .i64 (X.S.write i v).1) ∧ To encI 88 85 (w.drewN q) B s (X.S.write i v).2 P w' := fun q => YtafiopjgegmfoaaGreat.write_at (h.sets.stay (Nat.le_refl _) (fun _ _ => rfl) : IsS encI 88 85 (w.drewN q) B s X.S P) i v
    have K : Hid (∀ q w', To encI 88 85 (w.drewN q) B s (X.S.write i v).2 P w' → ToX w B g m gm S { X with S := (X.S.write i v).2 } F w') := fun q w' ht => ToX.sets hM h hm hgm (drewN ht)
    generalize X.S.write i v = R at *
    obtain ⟨xv, xk, xo⟩ := x
    clear h hM e el hc
    unfold ptr at *
    go_enter Tryz.func24, Tryz.ntmps24
    go_wp2_with (first | (go_at_call 43; refine c.mono ?_; rintro e w' ⟨rfl, rfl⟩) | (go_at_call 45; refine cl.mono ?_; rintro e w' ⟨rfl, q, rfl⟩; have c4' := c4 q) | (go_at_call 52; refine (cw q).mono ?_; rintro e w' ⟨rfl, ht⟩))
    go_ret
    exact ⟨rfl, K.out q _ ht⟩
theorem mark_at {w : World} {B g m gm : Nat} {S : M} {X : TX} {F : Nat → Prop} (hM : MM w B m gm S) (hX : IsX w B g m X F) (hm : ¬ F m) (hgm : ¬ F gm) : Calls Tryz.prog 60 #[ptr g] w fun r w' => r = .returned (.int .i64 X.mark.1) ∧ ToX w B g m gm S X.mark.2 F w' := by
  have H0 : Hid (ToX w B g m gm S X F w) := ToX.refl hM hX
  obtain ⟨s, lv, P, Q, h⟩ := hX
  have c := mayGo_at h.box h.ok
  by_cases h1 : X.st ≠ 1
  · have e : X.mark = (132, X) := by unfold TX.mark; rw [if_pos h1]
    rw [e]
    rw [if_pos h1] at c
    clear h hM e
    unfold ptr at *
    go_enter Tryz.func60, Tryz.ntmps60
    go_wp2_with (go_at_call 43; refine c.mono ?_; rintro e w' ⟨rfl, rfl⟩)
    go_ret
    exact ⟨rfl, H0.out⟩
  · have e : X.mark = (X.S.mark.1, { X with S := X.S.mark.2 }) := by unfold TX.mark; rw [if_neg h1]
    rw [e]
    rw [if_neg h1] at c
    have c4 : w.cell? ⟨g, 4, none⟩ = some (ptr s) := h.box.cell 4
    have cw := YtafiopjgegmfoaaGreat.mark_at h.sets
    have K : Hid (∀ w', To encI 88 85 w B s X.S.mark.2 P w' → ToX w B g m gm S { X with S := X.S.mark.2 } F w') := fun w' ht => ToX.sets hM h hm hgm ht
    generalize X.S.mark = R at *
    clear h hM e
    unfold ptr at *
    go_enter Tryz.func60, Tryz.ntmps60
    go_wp2_with (first | (go_at_call 43; refine c.mono ?_; rintro e wx ⟨rfl, hwx⟩; subst wx) | (go_at_call 73; refine cw.mono ?_; rintro e w' ⟨rfl, ht⟩))
    go_ret
    exact ⟨rfl, K.out _ ht⟩
theorem keep_at {w : World} {B g m gm : Nat} {S : M} {X : TX} {F : Nat → Prop} (hM : MM w B m gm S) (hX : IsX w B g m X F) (hm : ¬ F m) (hgm : ¬ F gm) : Calls Tryz.prog 90 #[ptr g] w fun r w' => r = .returned (.int .i64 X.keep.1) ∧ ToX w B g m gm S X.keep.2 F w' := by
  have H0 : Hid (ToX w B g m gm S X F w) := ToX.refl hM hX
  obtain ⟨s, lv, P, Q, h⟩ := hX
  have c := mayGo_at h.box h.ok
  by_cases h1 : X.st ≠ 1
  · have e : X.keep = (132, X) := by unfold TX.keep; rw [if_pos h1]
    rw [e]
    rw [if_pos h1] at c
    clear h hM e
    unfold ptr at *
    go_enter Tryz.func90, Tryz.ntmps90
    go_wp2_with (go_at_call 43; refine c.mono ?_; rintro e w' ⟨rfl, rfl⟩)
    go_ret
    exact ⟨rfl, H0.out⟩
  · have e : X.keep = (X.S.keep.1, { X with S := X.S.keep.2 }) := by unfold TX.keep; rw [if_neg h1]
    rw [e]
    rw [if_neg h1] at c
    have c4 : w.cell? ⟨g, 4, none⟩ = some (ptr s) := h.box.cell 4
    have cw := YtafiopjgegmfoaaGreat.keep_at h.sets
    have K : Hid (∀ w', To encI 88 85 w B s X.S.keep.2 P w' → ToX w B g m gm S { X with S := X.S.keep.2 } F w') := fun w' ht => ToX.sets hM h hm hgm ht
    generalize X.S.keep = R at *
    clear h hM e
    unfold ptr at *
    go_enter Tryz.func90, Tryz.ntmps90
    go_wp2_with (first | (go_at_call 43; refine c.mono ?_; rintro e wx ⟨rfl, hwx⟩; subst wx) | (go_at_call 101; refine cw.mono ?_; rintro e w' ⟨rfl, ht⟩))
    go_ret
    exact ⟨rfl, K.out _ ht⟩
theorem undo_at {w : World} {B g m gm : Nat} {S : M} {X : TX} {F : Nat → Prop} (hM : MM w B m gm S) (hX : IsX w B g m X F) (hm : ¬ F m) (hgm : ¬ F gm) : Calls Tryz.prog 91 #[ptr g] w fun r w' => r = .returned (.int .i64 X.undo.1) ∧ ToX w B g m gm S X.undo.2 F w' := by
  have H0 : Hid (ToX w B g m gm S X F w) := ToX.refl hM hX
  obtain ⟨s, lv, P, Q, h⟩ := hX
  have c := mayGo_at h.box h.ok
  by_cases h1 : X.st ≠ 1
  · have e : X.undo = (132, X) := by unfold TX.undo; rw [if_pos h1]
    rw [e]
    rw [if_pos h1] at c
    clear h hM e
    unfold ptr at *
    go_enter Tryz.func91, Tryz.ntmps91
    go_wp2_with (go_at_call 43; refine c.mono ?_; rintro e w' ⟨rfl, rfl⟩)
    go_ret
    exact ⟨rfl, H0.out⟩
  · have e : X.undo = (X.S.undo.1, { X with S := X.S.undo.2 }) := by unfold TX.undo; rw [if_neg h1]
    rw [e]
    rw [if_neg h1] at c
    have c4 : w.cell? ⟨g, 4, none⟩ = some (ptr s) := h.box.cell 4
    have cw := YtafiopjgegmfoaaGreat.undo_at h.sets
    have K : Hid (∀ w', To encI 88 85 w B s X.S.undo.2 P w' → ToX w B g m gm S { X with S := X.S.undo.2 } F w') := fun w' ht => ToX.sets hM h hm hgm ht
    generalize X.S.undo = R at *
    clear h hM e
    unfold ptr at *
    go_enter Tryz.func91, Tryz.ntmps91
    go_wp2_with (first | (go_at_call 43; refine c.mono ?_; rintro e wx ⟨rfl, hwx⟩; subst wx) | (go_at_call 102; refine cw.mono ?_; rintro e w' ⟨rfl, ht⟩))
    go_ret
    exact ⟨rfl, K.out _ ht⟩
end Go.Proofs.YtafiopjgegmfoaaGreat.T
