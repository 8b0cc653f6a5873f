/-
  A queue: New; its closures.
-/
import Derived.Test.YtlbnilendcelkaaTak
namespace Go.Proofs.Ytlbnilendcelkaa
open Go.RowKit
variable {α : Type}
/-- the owner's, and the calls, plainly -/
def QS.mine (S : QS α) (o : Int) : List (En α) := S.wait.filter fun e => e.own = o
def QS.later (S : QS α) (o : Int) (a : α) : Int × QS α := if o < 1 then (2, S) else if 1024 ≤ S.wait.length + S.due.length then (5, S) else (0, ⟨S.wait ++ [⟨0, o, a⟩], S.due⟩)
def QS.commit (S : QS α) (o v : Int) : Int × Int × QS α := if o < 1 ∨ v < 0 then (0, 2, S) else ((S.mine o).length, 0, ⟨S.wait.filter (fun e => !decide (e.own = o)), mrg En.ver S.due ((S.mine o).map fun e => { e with ver := v })⟩)
def QS.take (S : QS α) (u : Int) : List (En α) × QS α := (S.due.filter (fun e => e.ver ≤ u), ⟨S.wait, S.due.filter (fun e => !decide (e.ver ≤ u))⟩)
/-- who goes: of owner o, behind the first m ones -/
def bks (l : List (En α)) (o m : Int) (k : Nat) : Bool := match l[k]? with
  | some e => decide (e.own = o) && decide (m < (((l.take (k + 1)).filter fun e => e.own = o).length : Int))
  | none => false
def QS.back (S : QS α) (o m : Int) : Int × QS α := if m < 0 then (0, S) else ((sel (bks S.wait o m) S.wait).length, ⟨sel (fun k => !bks S.wait o m k) S.wait, S.due⟩)
theorem sel_sub (ans : Nat → Bool) {F : Type} (l : List F) : (sel ans l).Sublist l := by
  have h : ((l.zipIdx.filter fun p => ans p.2).map (·.1)).Sublist (l.zipIdx.map (·.1)) := (List.filter_sublist).map _
  rwa [List.zipIdx_map_fst] at h
theorem IsQ.putD {X : Enc (En α)} {tQ tE : TypeId} {w w4 : World} {B q : Nat} {S : QS α} {F : Nat → Prop} {vw vd v' : Value} {D : List (En α)} (h : IsQ X tQ tE w B q S F vw vd) (hg : Chg (fun k => vd.ownBlock = some k) w w4) (hr : IsRow X tE w4 B v' D) (hb : v'.ownBlock = vd.ownBlock ∨ ∀ k, v'.ownBlock = some k → w.heap.size ≤ k) (hrm : S.wait.length + D.length ≤ 1024) :
    IsQ X tQ tE (w4.setCell ⟨q, 2, none⟩ v') B q ⟨S.wait, D⟩ (fun i => F i ∨ v'.ownBlock = some i) vw v' ∧ Chg F w (w4.setCell ⟨q, 2, none⟩ v') := by
  have hq := h.fB q h.fq
  have hqd : vd.ownBlock ≠ some q := fun e => (h.fd q e).2 rfl
  have hsq : Chg (fun k => k = q) w4 (w4.setCell ⟨q, 2, none⟩ v') := (Chg.refl (fun k => k = q) w4).setCell q 2 v' (fun _ => rfl)
  have hq4 : v'.ownBlock ≠ some q := fun e => by
    rcases hb with hb | hb
    · exact hqd (hb ▸ e)
    · have := hb q e; omega
  have hwr := (h.rw.chg hg (fun b e e' => h.ne b e e')).chg hsq (fun b e e' => (h.fw b e).2 e')
  refine ⟨⟨.inl h.fq, fun k hk => ?_, ?_, hwr, hr.chg hsq (fun b e e' => hq4 (e' ▸ e)), fun k e => ⟨.inl (h.fw k e).1, (h.fw k e).2⟩, fun k e => ⟨.inr e, fun e' => hq4 (e' ▸ e)⟩, fun k e e' => ?_, hrm⟩, ?_⟩
  · rcases hk with hk | hk
    · exact ⟨(h.fB k hk).1, by have := (h.fB k hk).2; have := hg.size; simp [World.setCell]; omega⟩
    · exact ⟨(hr.lt k hk).2, by have := (hr.lt k hk).1; simpa [World.setCell] using this⟩
  · have := (h.box.chg hg (fun e => hqd e)).store 2 v'
    simpa using this
  · rcases hb with hb | hb
    · exact h.ne k e (hb ▸ e')
    · have := hb k e'; have := (h.rw.lt k e).1; omega
  · exact (hg.mono (fun i _ e => (h.fd i e).1)).trans hsq (fun i _ e => by rw [e]; exact h.fq)
theorem IsQ.putW {X : Enc (En α)} {tQ tE : TypeId} {w w4 : World} {B q : Nat} {S : QS α} {F : Nat → Prop} {vw vd v' : Value} {W : List (En α)} (h : IsQ X tQ tE w B q S F vw vd) (hg : Chg (fun k => vw.ownBlock = some k) w w4) (hr : IsRow X tE w4 B v' W) (hb : v'.ownBlock = vw.ownBlock ∨ ∀ k, v'.ownBlock = some k → w.heap.size ≤ k) (hrm : W.length + S.due.length ≤ 1024) :
    IsQ X tQ tE (w4.setCell ⟨q, 1, none⟩ v') B q ⟨W, S.due⟩ (fun i => F i ∨ v'.ownBlock = some i) v' vd ∧ Chg F w (w4.setCell ⟨q, 1, none⟩ v') := by
  have hq := h.fB q h.fq
  have hqd : vw.ownBlock ≠ some q := fun e => (h.fw q e).2 rfl
  have hsq : Chg (fun k => k = q) w4 (w4.setCell ⟨q, 1, none⟩ v') := (Chg.refl (fun k => k = q) w4).setCell q 1 v' (fun _ => rfl)
  have hq4 : v'.ownBlock ≠ some q := fun e => by
    rcases hb with hb | hb
    · exact hqd (hb ▸ e)
    · have := hb q e; omega
  have hdr := (h.rd.chg hg (fun b e e' => h.ne b e' e)).chg hsq (fun b e e' => (h.fd b e).2 e')
  refine ⟨⟨.inl h.fq, fun k hk => ?_, ?_, hr.chg hsq (fun b e e' => hq4 (e' ▸ e)), hdr, fun k e => ⟨.inr e, fun e' => hq4 (e' ▸ e)⟩, fun k e => ⟨.inl (h.fd k e).1, (h.fd k e).2⟩, fun k e e' => ?_, hrm⟩, ?_⟩
  · rcases hk with hk | hk
    · exact ⟨(h.fB k hk).1, by have := (h.fB k hk).2; have := hg.size; simp [World.setCell]; omega⟩
    · exact ⟨(hr.lt k hk).2, by have := (hr.lt k hk).1; simpa [World.setCell] using this⟩
  · have := (h.box.chg hg (fun e => hqd e)).store 1 v'
    simpa using this
  · rcases hb with hb | hb
    · exact h.ne k (hb ▸ e) e'
    · have := hb k e; have := (h.rd.lt k e').1; omega
  · exact (hg.mono (fun i _ e => (h.fw i e).1)).trans hsq (fun i _ e => by rw [e]; exact h.fq)
theorem ToQ.trans {X : Enc (En α)} {tQ tE : TypeId} {w w1 w2 : World} {B q : Nat} {S : QS α} {F F1 : Nat → Prop} (hc : Chg F w w1) (hF : ∀ k, F1 k → F k ∨ w.heap.size ≤ k) (h : ToQ X tQ tE w1 B q S F1 w2) : ToQ X tQ tE w B q S F w2 := by
  obtain ⟨⟨F2, h2, h3⟩, h4⟩ := h
  refine ⟨⟨F2, fun k hk => ?_, h3⟩, hc.trans h4 (fun i hi hx => ?_)⟩
  · rcases h2 k hk with e | e
    · exact hF k e
    · exact .inr (Nat.le_trans hc.size e)
  · rcases hF i hx with e | e
    · exact e
    · omega
theorem ToQ.below {X : Enc (En α)} {tQ tE : TypeId} {w w1 w2 : World} {B q : Nat} {S : QS α} {F : Nat → Prop} (h : ToQ X tQ tE w B q S F w1) (hb : Below w1.heap.size w1 w2) : ToQ X tQ tE w B q S F w2 := by
  obtain ⟨⟨F2, h2, h3⟩, h4⟩ := h
  exact ⟨⟨F2, h2, h3.below hb⟩, h4.trans (S' := fun _ => False) (Chg.ofBelow hb) (fun _ _ x => x.elim)⟩
/-- from a world that has only more blocks -/
theorem ToQ.from {X : Enc (En α)} {tQ tE : TypeId} {w w1 w2 : World} {B q : Nat} {S : QS α} {F : Nat → Prop} (hb : Below w.heap.size w w1) (h : ToQ X tQ tE w1 B q S F w2) : ToQ X tQ tE w B q S F w2 := ToQ.trans (Chg.ofBelow hb) (fun _ x => .inl x) h
namespace I
theorem infoM : (Try.prog.info? 49).map (fun i => (i.zero.isSome, i.size)) = some (true, 3) := by kernel_rfl
theorem poin : Try.prog.underlying 22 = some (.pointer 49) := by kernel_rfl
theorem eqlSelf (g : Nat) (w : World) : (binOp .eql 22 (.pointer (some ⟨g, 0, none⟩)) (.pointer (some ⟨g, 0, none⟩))).run Try.prog w = .ok (.bool true) w := by
  cases h : Try.prog.info? 49 with
  | none => have := infoM; rw [h] at this; cases this
  | some i => exact run_eql_ptr_same w ⟨g, 0, none⟩ poin h
theorem eqlNone (g : Nat) (w : World) : (binOp .eql 22 (.pointer none) (.pointer (some ⟨g, 0, none⟩))).run Try.prog w = .ok (.bool false) w := by
  have h : ∀ d : Nat, (Op.equalIn (d + 1) 22 (.pointer none) (.pointer (some ⟨g, 0, none⟩))).run Try.prog w = .ok false w := fun d => by
    simp [Op.equalIn, run_underlying poin]
  simp only [binOp]
  simp [Op.equal, Op.maxDepth, h]
theorem isMade_at {w : World} {q : Nat} {vw vd : Value} (h : Box w q #[ptr q, vw, vd] 49) : Calls Try.prog 24 #[ptr q] w fun r w' => r = .returned (.bool true) ∧ w' = w := by
  have c0 : w.cell? ⟨q, 0, none⟩ = some (ptr q) := h.cell 0
  clear h
  unfold ptr at *
  have he := eqlSelf q
  go_enter Try.func24, Try.ntmps24
  go_wp2
  go_ret
  simp
theorem new_at (w : World) : Calls Try.prog 7 #[] w fun r w' => ∃ q F, r = .returned (ptr q) ∧ HasQ eI 49 33 w' w.heap.size q ⟨[], []⟩ F ∧ Below w.heap.size w w' := by
  have b0 := Box.new w #[ptr w.heap.size, .slice none 0 0, .slice none 0 0] 49
  have HF : Hid (∃ q F, (Ending.returned (ptr w.heap.size) : Ending) = .returned (ptr q) ∧ HasQ eI 49 33 (w.alloc (.cells #[ptr w.heap.size, .slice none 0 0, .slice none 0 0] 49)) w.heap.size q ⟨[], []⟩ F ∧ Below w.heap.size w (w.alloc (.cells #[ptr w.heap.size, .slice none 0 0, .slice none 0 0] 49))) :=
    ⟨w.heap.size, fun k => k = w.heap.size, rfl, ⟨_, _, ⟨rfl, fun k hk => by subst hk; exact ⟨Nat.le_refl _, by simp⟩, b0, IsRow.nil _ _ _ _, IsRow.nil _ _ _ _, fun k hk => (by cases hk), fun k hk => (by cases hk), fun k hk => (by cases hk), by simp⟩, by simp [Rise]⟩, (Below.refl _ _).alloc (Nat.le_refl _) _⟩
  clear b0
  unfold ptr at *
  go_enter Try.func7, Try.ntmps7
  go_wp2
  go_ret
  exact HF.out
/-- the closure of a Commit -/
theorem mine_at {u : World} {ob : Nat} {o : Int} (x : En Int) (h : Box u ob #[.int .i64 o] 3) : Calls Try.prog 26 (#[eI.agg x] ++ #[ptr ob]) u fun r u' => r = .returned (.bool (decide (x.own = o))) ∧ AllB u' [(ob, #[.int .i64 o], 3)] ∧ Chg (fun _ => False) u u' := by
  obtain ⟨xv, xo, xa⟩ := x
  have c0 : u.cell? ⟨ob, 0, none⟩ = some (.int .i64 o) := h.cell 0
  have hl := h.lt
  have HB : Hid (Below u.heap.size u (u.alloc (.cells #[.int .i64 xv, .int .i64 xo, .int .i64 xa] 33)) ∧ Box (u.alloc (.cells #[.int .i64 xv, .int .i64 xo, .int .i64 xa] 33)) ob #[.int .i64 o] 3) := ⟨(Below.refl _ _).alloc (Nat.le_refl _) _, h.alloc _⟩
  have d0 : (u.alloc (.cells #[.int .i64 xv, .int .i64 xo, .int .i64 xa] 33)).cell? ⟨ob, 0, none⟩ = some (.int .i64 o) := HB.out.2.cell 0
  clear h

  show Calls Try.prog 26 #[.agg #[.int .i64 xv, .int .i64 xo, .int .i64 xa], .pointer (some ⟨ob, 0, none⟩)] u _
  go_enter Try.func26, Try.ntmps26
  go_wp2
  go_ret
  refine ⟨?_, fun y hy => ?_, Chg.ofBelow HB.out.1⟩
  · first | rfl | (simp; done) | (simp; by_cases hh : xo = o <;> simp [hh])
  · simp at hy; subst hy; exact HB.out.2
/-- the closure of a Take -/
theorem upto_at {u : World} {ob : Nat} {o : Int} (x : En Int) (h : Box u ob #[.int .i64 o] 2) : Calls Try.prog 30 (#[eI.agg x] ++ #[ptr ob]) u fun r u' => r = .returned (.bool (decide (x.ver ≤ o))) ∧ AllB u' [(ob, #[.int .i64 o], 2)] ∧ Chg (fun _ => False) u u' := by
  obtain ⟨xv, xo, xa⟩ := x
  have c0 : u.cell? ⟨ob, 0, none⟩ = some (.int .i64 o) := h.cell 0
  have HB : Hid (Below u.heap.size u (u.alloc (.cells #[.int .i64 xv, .int .i64 xo, .int .i64 xa] 33)) ∧ Box (u.alloc (.cells #[.int .i64 xv, .int .i64 xo, .int .i64 xa] 33)) ob #[.int .i64 o] 2) := ⟨(Below.refl _ _).alloc (Nat.le_refl _) _, h.alloc _⟩
  have d0 : (u.alloc (.cells #[.int .i64 xv, .int .i64 xo, .int .i64 xa] 33)).cell? ⟨ob, 0, none⟩ = some (.int .i64 o) := HB.out.2.cell 0
  clear h
  show Calls Try.prog 30 #[.agg #[.int .i64 xv, .int .i64 xo, .int .i64 xa], .pointer (some ⟨ob, 0, none⟩)] u _
  go_enter Try.func30, Try.ntmps30
  go_wp2
  go_ret
  refine ⟨?_, fun y hy => ?_, Chg.ofBelow HB.out.1⟩
  · first | rfl | (simp; done) | (simp; by_cases hh : xo = o <;> simp [hh])
  · simp at hy; subst hy; exact HB.out.2
end I
namespace S
theorem infoM : (Try.prog.info? 70).map (fun i => (i.zero.isSome, i.size)) = some (true, 3) := by kernel_rfl
theorem poin : Try.prog.underlying 61 = some (.pointer 70) := by kernel_rfl
theorem eqlSelf (g : Nat) (w : World) : (binOp .eql 61 (.pointer (some ⟨g, 0, none⟩)) (.pointer (some ⟨g, 0, none⟩))).run Try.prog w = .ok (.bool true) w := by
  cases h : Try.prog.info? 70 with
  | none => have := infoM; rw [h] at this; cases this
  | some i => exact run_eql_ptr_same w ⟨g, 0, none⟩ poin h
theorem eqlNone (g : Nat) (w : World) : (binOp .eql 61 (.pointer none) (.pointer (some ⟨g, 0, none⟩))).run Try.prog w = .ok (.bool false) w := by
  have h : ∀ d : Nat, (Op.equalIn (d + 1) 61 (.pointer none) (.pointer (some ⟨g, 0, none⟩))).run Try.prog w = .ok false w := fun d => by
    simp [Op.equalIn, run_underlying poin]
  simp only [binOp]
  simp [Op.equal, Op.maxDepth, h]
theorem isMade_at {w : World} {q : Nat} {vw vd : Value} (h : Box w q #[ptr q, vw, vd] 70) : Calls Try.prog 39 #[ptr q] w fun r w' => r = .returned (.bool true) ∧ w' = w := by
  have c0 : w.cell? ⟨q, 0, none⟩ = some (ptr q) := h.cell 0
  clear h
  unfold ptr at *
  have he := eqlSelf q
  go_enter Try.func39, Try.ntmps39
  go_wp2
  go_ret
  simp
theorem new_at (w : World) : Calls Try.prog 31 #[] w fun r w' => ∃ q F, r = .returned (ptr q) ∧ HasQ eS 70 67 w' w.heap.size q ⟨[], []⟩ F ∧ Below w.heap.size w w' := by
  have b0 := Box.new w #[ptr w.heap.size, .slice none 0 0, .slice none 0 0] 70
  have HF : Hid (∃ q F, (Ending.returned (ptr w.heap.size) : Ending) = .returned (ptr q) ∧ HasQ eS 70 67 (w.alloc (.cells #[ptr w.heap.size, .slice none 0 0, .slice none 0 0] 70)) w.heap.size q ⟨[], []⟩ F ∧ Below w.heap.size w (w.alloc (.cells #[ptr w.heap.size, .slice none 0 0, .slice none 0 0] 70))) :=
    ⟨w.heap.size, fun k => k = w.heap.size, rfl, ⟨_, _, ⟨rfl, fun k hk => by subst hk; exact ⟨Nat.le_refl _, by simp⟩, b0, IsRow.nil _ _ _ _, IsRow.nil _ _ _ _, fun k hk => (by cases hk), fun k hk => (by cases hk), fun k hk => (by cases hk), by simp⟩, by simp [Rise]⟩, (Below.refl _ _).alloc (Nat.le_refl _) _⟩
  clear b0
  unfold ptr at *
  go_enter Try.func31, Try.ntmps31
  go_wp2
  go_ret
  exact HF.out
/-- the closure of a Commit -/
theorem mine_at {u : World} {ob : Nat} {o : Int} (x : En ByteArray) (h : Box u ob #[.int .i64 o] 3) : Calls Try.prog 41 (#[eS.agg x] ++ #[ptr ob]) u fun r u' => r = .returned (.bool (decide (x.own = o))) ∧ AllB u' [(ob, #[.int .i64 o], 3)] ∧ Chg (fun _ => False) u u' := by
  obtain ⟨xv, xo, xa⟩ := x
  have c0 : u.cell? ⟨ob, 0, none⟩ = some (.int .i64 o) := h.cell 0
  have hl := h.lt
  have HB : Hid (Below u.heap.size u (u.alloc (.cells #[.int .i64 xv, .int .i64 xo, .string xa] 67)) ∧ Box (u.alloc (.cells #[.int .i64 xv, .int .i64 xo, .string xa] 67)) ob #[.int .i64 o] 3) := ⟨(Below.refl _ _).alloc (Nat.le_refl _) _, h.alloc _⟩
  have d0 : (u.alloc (.cells #[.int .i64 xv, .int .i64 xo, .string xa] 67)).cell? ⟨ob, 0, none⟩ = some (.int .i64 o) := HB.out.2.cell 0
  clear h

  show Calls Try.prog 41 #[.agg #[.int .i64 xv, .int .i64 xo, .string xa], .pointer (some ⟨ob, 0, none⟩)] u _
  go_enter Try.func41, Try.ntmps41
  go_wp2
  go_ret
  refine ⟨?_, fun y hy => ?_, Chg.ofBelow HB.out.1⟩
  · first | rfl | (simp; done) | (simp; by_cases hh : xo = o <;> simp [hh])
  · simp at hy; subst hy; exact HB.out.2
/-- the closure of a Take -/
theorem upto_at {u : World} {ob : Nat} {o : Int} (x : En ByteArray) (h : Box u ob #[.int .i64 o] 2) : Calls Try.prog 44 (#[eS.agg x] ++ #[ptr ob]) u fun r u' => r = .returned (.bool (decide (x.ver ≤ o))) ∧ AllB u' [(ob, #[.int .i64 o], 2)] ∧ Chg (fun _ => False) u u' := by
  obtain ⟨xv, xo, xa⟩ := x
  have c0 : u.cell? ⟨ob, 0, none⟩ = some (.int .i64 o) := h.cell 0
  have HB : Hid (Below u.heap.size u (u.alloc (.cells #[.int .i64 xv, .int .i64 xo, .string xa] 67)) ∧ Box (u.alloc (.cells #[.int .i64 xv, .int .i64 xo, .string xa] 67)) ob #[.int .i64 o] 2) := ⟨(Below.refl _ _).alloc (Nat.le_refl _) _, h.alloc _⟩
  have d0 : (u.alloc (.cells #[.int .i64 xv, .int .i64 xo, .string xa] 67)).cell? ⟨ob, 0, none⟩ = some (.int .i64 o) := HB.out.2.cell 0
  clear h
  show Calls Try.prog 44 #[.agg #[.int .i64 xv, .int .i64 xo, .string xa], .pointer (some ⟨ob, 0, none⟩)] u _
  go_enter Try.func44, Try.ntmps44
  go_wp2
  go_ret
  refine ⟨?_, fun y hy => ?_, Chg.ofBelow HB.out.1⟩
  · first | rfl | (simp; done) | (simp; by_cases hh : xo = o <;> simp [hh])
  · simp at hy; subst hy; exact HB.out.2
end S
end Go.Proofs.Ytlbnilendcelkaa
