/-
  Begin, Write, Mark, Keep, Undo, Abort, Reads, Writes of a transaction.
-/
import Derived.Test.YtafiopjgegmfoaaTFail
import Derived.Test.YtafiopjgegmfoaaCNone
namespace Go.Proofs.Ytafiopjgegmfoaa.T
open Go.RowKit Go.Proofs.Ytafiopjgegmfoaa.C

theorem drewN {α : Type} {enc : α → Value} {tS tM : TypeId} {w w' : World} {B g q : Nat} {S : SS α} {F : Nat → Prop} (h : To enc tS tM (w.drewN q) B g S F w') : To enc tS tM w B g S F w' :=
  ⟨h.1.wide (fun _ hx => hx) (fun x hx => h.1.fB x hx), ⟨h.2.1.os, h.2.1.tape, h.2.1.output, h.2.1.size, h.2.1.block⟩, h.2.2.1, h.2.2.2⟩
theorem begin_nil {w : World} {v : Value} (h : C.NoM w v) (o : Int) : Calls Try.prog 10 #[v, .int .i64 o] w fun r w' => r = .returned (.tuple #[.pointer none, .int .i64 1]) ∧ w' = w := by
  have c := C.size_none h
  clear h
  go_enter Try.func10, Try.ntmps10
  go_wp2_with (go_at_call 21; refine c.mono ?_; rintro e w' ⟨rfl, rfl⟩)
  go_ret2
  simp
theorem begin_arg {w : World} {B m gm : Nat} {S : M} (h : MM w B m gm S) (o : Int) (ho : o < 1) : Calls Try.prog 10 #[ptr m, .int .i64 o] w fun r w' => r = .returned (.tuple #[.pointer none, .int .i64 2]) ∧ w' = w := by
  have c := C.size_at h.is
  have hn := h.is.rt.n1
  generalize S.C.length = n at *
  have h0 : ¬ (n : Int) = 0 := by omega
  have h0' : ((n : Int) == 0) = false := by simpa using h0
  clear h
  unfold ptr at *
  go_enter Try.func10, Try.ntmps10
  go_wp2_with (go_at_call 21; refine c.mono ?_; rintro e w' ⟨rfl, rfl⟩)
  go_ret2
  simp
set_option maxRecDepth 100000 in
set_option maxHeartbeats 1000000 in
theorem begin_at {w : World} {B m gm : Nat} {S : M} (h : MM w B m gm S) (o : Int) (ho : 1 ≤ o) (ho2 : o < 9223372036854775808) : Calls Try.prog 10 #[ptr m, .int .i64 o] w fun r w' => ∃ g, r = .returned (.tuple #[ptr g, .int .i64 0]) ∧ IsX w' w.heap.size g m (X0 o S.k) (fun x => w.heap.size ≤ x ∧ x < w'.heap.size) ∧ Below w.heap.size w w' := by
  have c := C.size_at h.is
  have ck := C.clock_at h.is
  have cn := new_at w
  have hn := h.is.rt.n1
  generalize S.C.length = n at *
  generalize S.k = k at *
  have h0 : ¬ (n : Int) = 0 := by omega
  have h0' : ((n : Int) == 0) = false := by simpa using h0
  have h1 : ¬ o < 1 := by omega
  clear h hn h0
  unfold ptr at *
  go_enter Try.func10, Try.ntmps10
  go_wp2_with (first | (go_at_call 21; refine c.mono ?_; rintro e wx ⟨rfl, hwx⟩; subst wx) | (go_at_call 11; refine ck.mono ?_; rintro e wx ⟨rfl, hwx⟩; subst wx))
  refine cn.mono ?_
  rintro e w1 ⟨s, rfl, hs, hS, hb⟩
  have HSS : Hid (IsS encI 85 30 w1 w.heap.size s ⟨[], [], []⟩ (fun x => w.heap.size ≤ x ∧ x < w1.heap.size)) := hS
  have HB : Hid (Below w.heap.size w w1) := hb
  clear hS hb cn c ck hs
  unfold ptr at *
  go_wp2_with fail
  go_ret2
  obtain ⟨o', ho'⟩ : ∃ o', o' = Obj.cells #[.pointer (some ⟨w1.heap.size, 0, none⟩), .pointer (some ⟨m, 0, none⟩), .int .i64 o, .int .i64 k, .pointer (some ⟨s, 0, none⟩), .int .u8 1, .slice none 0 0, .int .i64 0, .bool false] 71 := ⟨_, rfl⟩
  rw [← ho']
  have hsz := HB.out.size
  have B1 : Box (w1.alloc o') w1.heap.size (cells w1.heap.size m s (.slice none 0 0) (X0 o k)) 71 := by rw [ho']; exact Box.new w1 _ 71
  have st : ∀ x, x < w1.heap.size → (w1.alloc o').heap[x]? = w1.heap[x]? := fun x hx => Below.heap_alloc w1 _ x hx
  have hsz2 : (w1.alloc o').heap.size = w1.heap.size + 1 := by simp
  refine ⟨w1.heap.size, by simp, ⟨s, .slice none 0 0, fun x => w.heap.size ≤ x ∧ x < w1.heap.size, fun x => x = w1.heap.size, ?_⟩, ?_⟩
  · exact
      { box := B1
        sets := HSS.out.stay (by rw [hsz2]; omega) (fun x hx => st x hx.2)
        left := LeftAt.nil _ _ _ _ _
        ok := ⟨⟨ho, ho2⟩, .inl rfl, by simp [X0], by simp [X0]⟩
        qg := rfl
        pq := fun x p q => by omega
        fF := fun x => by rw [hsz2]; constructor <;> intro h <;> omega
        fB := fun x hx => hx }
  · exact ⟨HB.out.os, HB.out.tape, HB.out.output, by rw [hsz2]; omega, fun x hx => (st x (by omega)).trans (HB.out.block x hx)⟩
theorem write_at {w : World} {B g m gm : Nat} {S : M} {X : TX} {F : Nat → Prop} (hM : MM w B m gm S) (hX : IsX w B g m X F) (hm : ¬ F m) (hgm : ¬ F gm) (i v : Int) : Calls Try.prog 14 #[ptr g, .int .i64 i, .int .i64 v] w fun r w' => r = .returned (.int .i64 (X.write S i v).1) ∧ ToX w B g m gm S (X.write S i v).2 F w' := by
  have H0 : Hid (ToX w B g m gm S X F w) := ToX.refl hM hX
  obtain ⟨s, lv, P, Q, h⟩ := hX
  have c := mayGo_at h.box h.ok
  by_cases h1 : X.st ≠ 1
  · have e : X.write S i v = (132, X) := by unfold TX.write; rw [if_pos h1]
    rw [e]
    rw [if_pos h1] at c
    clear h hM e
    unfold ptr at *
    go_enter Try.func14, Try.ntmps14
    go_wp2_with (go_at_call 24; refine c.mono ?_; rintro e w' ⟨rfl, rfl⟩)
    go_ret
    exact ⟨rfl, H0.out⟩
  rw [if_neg h1] at c
  have c1 : w.cell? ⟨g, 1, none⟩ = some (ptr m) := h.box.cell 1
  have cl := C.load_at hM.is i
  cases hc : S.cell? i with
  | none =>
    have e : X.write S i v = (2, X) := by unfold TX.write; rw [if_neg h1, hc]
    have el : M.load S i = (.int .i64 0, 0, 0, 2) := by simp [M.load, hc]
    rw [el] at cl
    rw [e]
    clear h hM e el hc
    unfold ptr at *
    go_enter Try.func14, Try.ntmps14
    go_wp2_with (first | (go_at_call 24; refine c.mono ?_; rintro e w' ⟨rfl, rfl⟩) | (go_at_call 19; refine cl.mono ?_; rintro e w' ⟨rfl, q, rfl⟩))
    go_ret
    exact ⟨rfl, H0.out.drew q⟩
  | some x =>
    have e : X.write S i v = ((X.S.write i v).1, { X with S := (X.S.write i v).2 }) := by unfold TX.write; rw [if_neg h1, hc]
    have el : M.load S i = (x.v, x.ver, x.own, 0) := by simp [M.load, hc]
    rw [el] at cl
    rw [e]
    have c4 : ∀ q, (w.drewN q).cell? ⟨g, 4, none⟩ = some (ptr s) := fun q => h.box.cell 4
    have cw : ∀ q, Calls Try.prog 29 #[ptr s, .int .i64 i, .int .i64 v] (w.drewN q) fun r w' => r = .returned (.int .i64 (X.S.write i v).1) ∧ To encI 85 30 (w.drewN q) B s (X.S.write i v).2 P w' := fun q => Ytafiopjgegmfoaa.write_at (h.sets.stay (Nat.le_refl _) (fun _ _ => rfl) : IsS encI 85 30 (w.drewN q) B s X.S P) i v
    have K : Hid (∀ q w', To encI 85 30 (w.drewN q) B s (X.S.write i v).2 P w' → ToX w B g m gm S { X with S := (X.S.write i v).2 } F w') := fun q w' ht => ToX.sets hM h hm hgm (drewN ht)
    generalize X.S.write i v = R at *
    obtain ⟨xv, xk, xo⟩ := x
    clear h hM e el hc
    unfold ptr at *
    go_enter Try.func14, Try.ntmps14
    go_wp2_with (first | (go_at_call 24; refine c.mono ?_; rintro e w' ⟨rfl, rfl⟩) | (go_at_call 19; refine cl.mono ?_; rintro e w' ⟨rfl, q, rfl⟩; have c4' := c4 q) | (go_at_call 29; refine (cw q).mono ?_; rintro e w' ⟨rfl, ht⟩))
    go_ret
    exact ⟨rfl, K.out q _ ht⟩
theorem abort_at {w : World} {B g m gm : Nat} {S : M} {X : TX} {F : Nat → Prop} (hM : MM w B m gm S) (hX : IsX w B g m X F) (hm : ¬ F m) (hgm : ¬ F gm) : Calls Try.prog 15 #[ptr g] w fun r w' => r = .returned (.int .i64 (X.abort S).1) ∧ ToX w B g m gm (X.abort S).2.1 (X.abort S).2.2 F w' := by
  have H0 : Hid (ToX w B g m gm S X F w) := ToX.refl hM hX
  have cf := fail_at hM hX hm hgm
  obtain ⟨s, lv, P, Q, h⟩ := hX
  have cm := isMade_at h.box
  have c := isOver_at h.box h.ok
  have c8 : w.cell? ⟨g, 8, none⟩ = some (.bool X.pub) := h.box.cell 8
  by_cases h1 : X.st = 3 ∨ X.st = 4
  · have e : X.abort S = (132, S, X) := by unfold TX.abort; rw [if_pos (h1.imp_right .inl)]
    rw [e]
    rw [decide_eq_true h1] at c
    clear h hM e cf h1
    generalize X.pub = b at *
    unfold ptr at *
    go_enter Try.func15, Try.ntmps15
    go_wp2_with (first | (go_at_call 30; refine cm.mono ?_; rintro e wx ⟨rfl, hwx⟩; subst wx) | (go_at_call 31; refine c.mono ?_; rintro e wx ⟨rfl, hwx⟩; subst wx))
    go_ret
    exact ⟨rfl, H0.out⟩
  · rw [decide_eq_false h1] at c
    cases hp : X.pub with
    | true =>
      have e : X.abort S = (132, S, X) := by unfold TX.abort; rw [if_pos (.inr (.inr hp))]
      rw [e]
      rw [hp] at c8
      clear h hM e cf h1 hp
      unfold ptr at *
      go_enter Try.func15, Try.ntmps15
      go_wp2_with (first | (go_at_call 30; refine cm.mono ?_; rintro e wx ⟨rfl, hwx⟩; subst wx) | (go_at_call 31; refine c.mono ?_; rintro e wx ⟨rfl, hwx⟩; subst wx))
      go_ret
      exact ⟨rfl, H0.out⟩
    | false =>
      have e : X.abort S = (0, S.rel X.own, X.fail) := by
        unfold TX.abort
        rw [if_neg]
        rintro (h' | h' | h')
        · exact h1 (.inl h')
        · exact h1 (.inr h')
        · rw [hp] at h'; cases h'
      rw [e]
      rw [hp] at c8
      generalize S.rel X.own = S' at *
      generalize X.fail = X' at *
      clear h hM e h1 hp H0
      unfold ptr at *
      go_enter Try.func15, Try.ntmps15
      go_wp2_with (first | (go_at_call 30; refine cm.mono ?_; rintro e wx ⟨rfl, hwx⟩; subst wx) | (go_at_call 31; refine c.mono ?_; rintro e wx ⟨rfl, hwx⟩; subst wx) | (go_at_call 27; refine cf.mono ?_; rintro e w2 ⟨rfl, ht⟩))
      go_ret
      exact ⟨rfl, ht⟩
end Go.Proofs.Ytafiopjgegmfoaa.T
