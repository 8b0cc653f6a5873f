/-
  Take; the closure of a Back.
-/
import Derived.Test.YtlbnilendcelkaaPck
import Derived.Shelf.Abstract
namespace Go.Proofs.Ytlbnilendcelkaa
open Go.RowKit
variable {α : Type}
def upq (l : List (En α)) (o : Int) (k : Nat) : Bool := match l[k]? with | some e => decide (e.ver ≤ o) | none => false
def mnq (l : List (En α)) (o : Int) (k : Nat) : Bool := match l[k]? with | some e => decide (e.own = o) | none => false
namespace I
theorem enters30 : ∀ args w, (callFunc 30 args).run Try.prog w = .ok (.enter 30 args) w := enters_of Try.func30 (by kernel_rfl) rfl
theorem enters36 : ∀ args w, (callFunc 36 args).run Try.prog w = .ok (.enter 36 args) w := enters_of Try.func36 (by kernel_rfl) rfl
theorem enters26 : ∀ args w, (callFunc 26 args).run Try.prog w = .ok (.enter 26 args) w := enters_of Try.func26 (by kernel_rfl) rfl
set_option maxRecDepth 100000 in
set_option maxHeartbeats 4000000 in
theorem takeq_at {w : World} {B q : Nat} {S : QS Int} {F : Nat → Prop} (h0 : HasQ eI 49 33 w B q S F) (o : Int) :
    Calls Try.prog 10 #[ptr q, .int .i64 o] w fun r w' => ∃ v, r = .returned v ∧ IsRow eI 33 w' w.heap.size v (S.take o).1 ∧ ToQ eI 49 33 w B q (S.take o).2 F w' ∧ (∃ F', (∀ k, F' k → F k) ∧ HasQ eI 49 33 w' B q (S.take o).2 F') := by
  obtain ⟨vw, vd, h, hri⟩ := h0
  have bw := (Below.refl w.heap.size w).alloc (Nat.le_refl _) (.cells #[.int .i64 o] 2)
  have h1 := h.below bw
  have bx := Box.new w #[.int .i64 o] 2
  obtain ⟨w1, hw1⟩ : ∃ w1, w1 = w.alloc (.cells #[.int .i64 o] 2) := ⟨_, rfl⟩
  have hfq := h.fB
  have hsz : w1.heap.size = w.heap.size + 1 := by rw [hw1]; simp
  rw [← hw1] at bw h1 bx
  have cp := pickD_at h1 30 #[ptr w.heap.size] enters30 (upq S.due o) (fun _ => [(w.heap.size, #[.int .i64 o], 2)]) (fun _ => False)
    (fun x hx => by simp at hx; subst hx; exact bx) (fun k x hx => by simp at hx; subst hx; exact ⟨fun hf => by have := (hfq _ hf).2; omega, by show w.heap.size < _; omega⟩) (fun k hk => hk.elim)
    (fun k hk u hu => (upto_at S.due[k] (hu _ (List.mem_singleton_self _))).mono (fun r u' ⟨e1, e2, e3⟩ => ⟨by rw [e1]; simp [upq, hk], e2, e3⟩))
  have e1 : sel (upq S.due o) S.due = S.due.filter (fun e : En Int => decide (e.ver ≤ o)) := sel_filter (fun e : En Int => decide (e.ver ≤ o)) _ _ (fun k hk => by simp [upq, hk])
  have e2 : sel (fun k => !upq S.due o k) S.due = S.due.filter (fun e : En Int => !decide (e.ver ≤ o)) := sel_filter (fun e : En Int => !decide (e.ver ≤ o)) _ _ (fun k hk => by simp [upq, hk])
  have hri2 : Rise En.ver (S.due.filter (fun e : En Int => !decide (e.ver ≤ o))) := List.Pairwise.sublist List.filter_sublist hri
  have e1' : S.due.filter (fun e : En Int => decide (e.ver ≤ o)) = (S.take o).1 := rfl
  rw [e1, e2, e1'] at cp
  have HF : Hid (∀ vo vd' u, IsRow eI 33 u w1.heap.size vo (S.take o).1 → IsQ eI 49 33 u B q ⟨S.wait, S.due.filter (fun e : En Int => !decide (e.ver ≤ o))⟩ F vw vd' → Chg (fun k => (fun _ => False) k ∨ F k) w1 u → ∃ v, (Ending.returned vo : Ending) = .returned v ∧ IsRow eI 33 u w.heap.size v (S.take o).1 ∧ ToQ eI 49 33 w B q (S.take o).2 F u ∧ (∃ F', (∀ k, F' k → F k) ∧ HasQ eI 49 33 u B q (S.take o).2 F')) := fun vo vd' u g1 g2 g3 => by
    refine ⟨vo, rfl, ?_, ToQ.from bw ⟨⟨F, fun k hk => .inl hk, vw, vd', g2, hri2⟩, g3.mono (fun i _ e => e.elim (fun x => x.elim) id)⟩, F, fun k hk => hk, vw, vd', g2, hri2⟩
    rcases g1.lay with ⟨rfl, he⟩ | ⟨g, cap, rfl, hB, hl⟩
    · rw [he]; exact IsRow.nil _ _ _ _
    · exact hl.row (by omega)
  have cm := isMade_at h1.box
  subst hw1
  clear h h1 bx hfq hsz e1 e1' e2 hri hri2 bw
  unfold ptr at *
  go_enter Try.func10, Try.ntmps10
  go_wp2_with (first | (go_at_call 24; refine cm.mono ?_; rintro e w' ⟨rfl, rfl⟩) | (go_at_call 25; refine cp.mono ?_; rintro e w' ⟨vo, vd', rfl, g1, g2, g3⟩; have hf := HF.out vo vd' _ g1 g2 g3; have HF2 := hid hf; clear hf g1 g2 g3 HF cp))
  go_ret
  exact HF2.out
/-- the closure of a Back -/
theorem cnt_at {u : World} {l : List (En Int)} {o m : Int} {b1 b2 b3 k : Nat} (hk : k < l.length) (hl : l.length ≤ 2000) (h1 : Box u b1 #[.int .i64 o] 3) (h2 : Box u b2 #[.int .i64 (((l.take k).filter fun e => e.own = o).length : Int)] 3) (h3 : Box u b3 #[.int .i64 m] 3) (h12 : b1 ≠ b2) (h23 : b3 ≠ b2) :
    Calls Try.prog 36 (#[eI.agg l[k]] ++ #[ptr b1, ptr b2, ptr b3]) u fun r u' => r = .returned (.bool (bks l o m k)) ∧ AllB u' [(b1, #[.int .i64 o], 3), (b2, #[.int .i64 (((l.take (k + 1)).filter fun e => e.own = o).length : Int)], 3), (b3, #[.int .i64 m], 3)] ∧ Chg (fun i => i = b2) u u' := by
  have hbk : bks l o m k = (decide (l[k].own = o) && decide (m < (((l.take (k + 1)).filter fun e => e.own = o).length : Int))) := by unfold bks; simp [hk]
  have hft : (l.take (k + 1)).filter (fun e => decide (e.own = o)) = (l.take k).filter (fun e => decide (e.own = o)) ++ if l[k].own = o then [l[k]] else [] := by
    rw [List.take_succ_eq_append_getElem hk, List.filter_append]
    by_cases hh : l[k].own = o <;> simp [hh]
  have hle : ((l.take k).filter fun e => decide (e.own = o)).length ≤ 2000 := Nat.le_trans (List.length_filter_le _ _) (by simp; omega)
  rw [hbk, hft]
  clear hbk hft
  generalize ((l.take k).filter fun e => decide (e.own = o)) = fl at *
  generalize l[k] = x at *
  obtain ⟨xv, xo, xa⟩ := x
  obtain ⟨n, hn⟩ : ∃ n, n = fl.length := ⟨_, rfl⟩
  rw [← hn] at h2 hle
  have ca := (Chg.refl (fun i => i = b2) u).alloc (.cells #[.int .i64 xv, .int .i64 xo, .int .i64 xa] 33)
  have a1 := h1.alloc (.cells #[.int .i64 xv, .int .i64 xo, .int .i64 xa] 33)
  have a2 := h2.alloc (.cells #[.int .i64 xv, .int .i64 xo, .int .i64 xa] 33)
  have a3 := h3.alloc (.cells #[.int .i64 xv, .int .i64 xo, .int .i64 xa] 33)
  obtain ⟨wa, hwa⟩ : ∃ wa, wa = u.alloc (.cells #[.int .i64 xv, .int .i64 xo, .int .i64 xa] 33) := ⟨_, rfl⟩
  rw [← hwa] at ca a1 a2 a3
  have c1 : wa.cell? ⟨b1, 0, none⟩ = some (.int .i64 o) := a1.cell 0
  have c2 : wa.cell? ⟨b2, 0, none⟩ = some (.int .i64 (n : Int)) := a2.cell 0
  have c3 : wa.cell? ⟨b3, 0, none⟩ = some (.int .i64 m) := a3.cell 0
  have f2 : wa.frozen? ⟨b2, 0, none⟩ = false := a2.frozen 0
  by_cases hxo : xo = o
  · subst hxo
    have s2 := a2.store 0 (.int .i64 ((n : Int) + 1))
    have cs := ca.setCell b2 0 (.int .i64 ((n : Int) + 1)) (fun _ => rfl)
    have s1 := a1.other b2 0 (.int .i64 ((n : Int) + 1)) h12
    have s3 := a3.other b2 0 (.int .i64 ((n : Int) + 1)) h23
    have d2 : (wa.setCell ⟨b2, 0, none⟩ (.int .i64 ((n : Int) + 1))).cell? ⟨b2, 0, none⟩ = some (.int .i64 ((n : Int) + 1)) := by rw [s2.cell]; simp
    have d3 : (wa.setCell ⟨b2, 0, none⟩ (.int .i64 ((n : Int) + 1))).cell? ⟨b3, 0, none⟩ = some (.int .i64 m) := s3.cell 0
    have r1 : IntKind.i64.wrap ((n : Int) + 1) = (n : Int) + 1 := by rw [IntKind.wrap_i64]; omega
    have HF := hid (And.intro cs (And.intro s1 (And.intro s2 s3)))
    have HN := hid hn
    subst hwa
    clear h1 h2 h3 ca a1 a2 a3 cs s1 s2 s3 hn h12 h23
    show Calls Try.prog 36 #[.agg #[.int .i64 xv, .int .i64 xo, .int .i64 xa], .pointer (some ⟨b1, 0, none⟩), .pointer (some ⟨b2, 0, none⟩), .pointer (some ⟨b3, 0, none⟩)] u _
    go_enter Try.func36, Try.ntmps36
    go_wp2
    go_ret
    refine ⟨?_, fun y hy => ?_, HF.out.1⟩
    · simp [← HN.out]
    · simp at hy
      rcases hy with rfl | rfl | rfl
      · exact HF.out.2.1
      · have := HF.out.2.2.1; rw [← HN.out]; simpa using this
      · exact HF.out.2.2.2
  · have hne : (xo == o) = false := by simpa using hxo
    have HF := hid (And.intro ca (And.intro a1 (And.intro a2 a3)))
    have HN := hid hn
    subst hwa
    clear h1 h2 h3 ca a1 a2 a3 hn h12 h23
    show Calls Try.prog 36 #[.agg #[.int .i64 xv, .int .i64 xo, .int .i64 xa], .pointer (some ⟨b1, 0, none⟩), .pointer (some ⟨b2, 0, none⟩), .pointer (some ⟨b3, 0, none⟩)] u _
    go_enter Try.func36, Try.ntmps36
    go_wp2
    go_ret
    refine ⟨?_, fun y hy => ?_, HF.out.1⟩
    · simp
    · simp at hy
      rcases hy with rfl | rfl | rfl
      · exact HF.out.2.1
      · have := HF.out.2.2.1; simp [← HN.out]; exact this
      · exact HF.out.2.2.2
end I
namespace S
theorem enters30 : ∀ args w, (callFunc 44 args).run Try.prog w = .ok (.enter 44 args) w := enters_of Try.func44 (by kernel_rfl) rfl
theorem enters36 : ∀ args w, (callFunc 49 args).run Try.prog w = .ok (.enter 49 args) w := enters_of Try.func49 (by kernel_rfl) rfl
theorem enters26 : ∀ args w, (callFunc 41 args).run Try.prog w = .ok (.enter 41 args) w := enters_of Try.func41 (by kernel_rfl) rfl
set_option maxRecDepth 100000 in
set_option maxHeartbeats 4000000 in
theorem takeq_at {w : World} {B q : Nat} {S : QS ByteArray} {F : Nat → Prop} (h0 : HasQ eS 70 67 w B q S F) (o : Int) :
    Calls Try.prog 34 #[ptr q, .int .i64 o] w fun r w' => ∃ v, r = .returned v ∧ IsRow eS 67 w' w.heap.size v (S.take o).1 ∧ ToQ eS 70 67 w B q (S.take o).2 F w' ∧ (∃ F', (∀ k, F' k → F k) ∧ HasQ eS 70 67 w' B q (S.take o).2 F') := by
  obtain ⟨vw, vd, h, hri⟩ := h0
  have bw := (Below.refl w.heap.size w).alloc (Nat.le_refl _) (.cells #[.int .i64 o] 2)
  have h1 := h.below bw
  have bx := Box.new w #[.int .i64 o] 2
  obtain ⟨w1, hw1⟩ : ∃ w1, w1 = w.alloc (.cells #[.int .i64 o] 2) := ⟨_, rfl⟩
  have hfq := h.fB
  have hsz : w1.heap.size = w.heap.size + 1 := by rw [hw1]; simp
  rw [← hw1] at bw h1 bx
  have cp := pickD_at h1 44 #[ptr w.heap.size] enters30 (upq S.due o) (fun _ => [(w.heap.size, #[.int .i64 o], 2)]) (fun _ => False)
    (fun x hx => by simp at hx; subst hx; exact bx) (fun k x hx => by simp at hx; subst hx; exact ⟨fun hf => by have := (hfq _ hf).2; omega, by show w.heap.size < _; omega⟩) (fun k hk => hk.elim)
    (fun k hk u hu => (upto_at S.due[k] (hu _ (List.mem_singleton_self _))).mono (fun r u' ⟨e1, e2, e3⟩ => ⟨by rw [e1]; simp [upq, hk], e2, e3⟩))
  have e1 : sel (upq S.due o) S.due = S.due.filter (fun e : En ByteArray => decide (e.ver ≤ o)) := sel_filter (fun e : En ByteArray => decide (e.ver ≤ o)) _ _ (fun k hk => by simp [upq, hk])
  have e2 : sel (fun k => !upq S.due o k) S.due = S.due.filter (fun e : En ByteArray => !decide (e.ver ≤ o)) := sel_filter (fun e : En ByteArray => !decide (e.ver ≤ o)) _ _ (fun k hk => by simp [upq, hk])
  have hri2 : Rise En.ver (S.due.filter (fun e : En ByteArray => !decide (e.ver ≤ o))) := List.Pairwise.sublist List.filter_sublist hri
  have e1' : S.due.filter (fun e : En ByteArray => decide (e.ver ≤ o)) = (S.take o).1 := rfl
  rw [e1, e2, e1'] at cp
  have HF : Hid (∀ vo vd' u, IsRow eS 67 u w1.heap.size vo (S.take o).1 → IsQ eS 70 67 u B q ⟨S.wait, S.due.filter (fun e : En ByteArray => !decide (e.ver ≤ o))⟩ F vw vd' → Chg (fun k => (fun _ => False) k ∨ F k) w1 u → ∃ v, (Ending.returned vo : Ending) = .returned v ∧ IsRow eS 67 u w.heap.size v (S.take o).1 ∧ ToQ eS 70 67 w B q (S.take o).2 F u ∧ (∃ F', (∀ k, F' k → F k) ∧ HasQ eS 70 67 u B q (S.take o).2 F')) := fun vo vd' u g1 g2 g3 => by
    refine ⟨vo, rfl, ?_, ToQ.from bw ⟨⟨F, fun k hk => .inl hk, vw, vd', g2, hri2⟩, g3.mono (fun i _ e => e.elim (fun x => x.elim) id)⟩, F, fun k hk => hk, vw, vd', g2, hri2⟩
    rcases g1.lay with ⟨rfl, he⟩ | ⟨g, cap, rfl, hB, hl⟩
    · rw [he]; exact IsRow.nil _ _ _ _
    · exact hl.row (by omega)
  have cm := isMade_at h1.box
  subst hw1
  clear h h1 bx hfq hsz e1 e1' e2 hri hri2 bw
  unfold ptr at *
  go_enter Try.func34, Try.ntmps34
  go_wp2_with (first | (go_at_call 39; refine cm.mono ?_; rintro e w' ⟨rfl, rfl⟩) | (go_at_call 40; refine cp.mono ?_; rintro e w' ⟨vo, vd', rfl, g1, g2, g3⟩; have hf := HF.out vo vd' _ g1 g2 g3; have HF2 := hid hf; clear hf g1 g2 g3 HF cp))
  go_ret
  exact HF2.out
/-- the closure of a Back -/
theorem cnt_at {u : World} {l : List (En ByteArray)} {o m : Int} {b1 b2 b3 k : Nat} (hk : k < l.length) (hl : l.length ≤ 2000) (h1 : Box u b1 #[.int .i64 o] 3) (h2 : Box u b2 #[.int .i64 (((l.take k).filter fun e => e.own = o).length : Int)] 3) (h3 : Box u b3 #[.int .i64 m] 3) (h12 : b1 ≠ b2) (h23 : b3 ≠ b2) :
    Calls Try.prog 49 (#[eS.agg l[k]] ++ #[ptr b1, ptr b2, ptr b3]) u fun r u' => r = .returned (.bool (bks l o m k)) ∧ AllB u' [(b1, #[.int .i64 o], 3), (b2, #[.int .i64 (((l.take (k + 1)).filter fun e => e.own = o).length : Int)], 3), (b3, #[.int .i64 m], 3)] ∧ Chg (fun i => i = b2) u u' := by
  have hbk : bks l o m k = (decide (l[k].own = o) && decide (m < (((l.take (k + 1)).filter fun e => e.own = o).length : Int))) := by unfold bks; simp [hk]
  have hft : (l.take (k + 1)).filter (fun e => decide (e.own = o)) = (l.take k).filter (fun e => decide (e.own = o)) ++ if l[k].own = o then [l[k]] else [] := by
    rw [List.take_succ_eq_append_getElem hk, List.filter_append]
    by_cases hh : l[k].own = o <;> simp [hh]
  have hle : ((l.take k).filter fun e => decide (e.own = o)).length ≤ 2000 := Nat.le_trans (List.length_filter_le _ _) (by simp; omega)
  rw [hbk, hft]
  clear hbk hft
  generalize ((l.take k).filter fun e => decide (e.own = o)) = fl at *
  generalize l[k] = x at *
  obtain ⟨xv, xo, xa⟩ := x
  obtain ⟨n, hn⟩ : ∃ n, n = fl.length := ⟨_, rfl⟩
  rw [← hn] at h2 hle
  have ca := (Chg.refl (fun i => i = b2) u).alloc (.cells #[.int .i64 xv, .int .i64 xo, .string xa] 67)
  have a1 := h1.alloc (.cells #[.int .i64 xv, .int .i64 xo, .string xa] 67)
  have a2 := h2.alloc (.cells #[.int .i64 xv, .int .i64 xo, .string xa] 67)
  have a3 := h3.alloc (.cells #[.int .i64 xv, .int .i64 xo, .string xa] 67)
  obtain ⟨wa, hwa⟩ : ∃ wa, wa = u.alloc (.cells #[.int .i64 xv, .int .i64 xo, .string xa] 67) := ⟨_, rfl⟩
  rw [← hwa] at ca a1 a2 a3
  have c1 : wa.cell? ⟨b1, 0, none⟩ = some (.int .i64 o) := a1.cell 0
  have c2 : wa.cell? ⟨b2, 0, none⟩ = some (.int .i64 (n : Int)) := a2.cell 0
  have c3 : wa.cell? ⟨b3, 0, none⟩ = some (.int .i64 m) := a3.cell 0
  have f2 : wa.frozen? ⟨b2, 0, none⟩ = false := a2.frozen 0
  by_cases hxo : xo = o
  · subst hxo
    have s2 := a2.store 0 (.int .i64 ((n : Int) + 1))
    have cs := ca.setCell b2 0 (.int .i64 ((n : Int) + 1)) (fun _ => rfl)
    have s1 := a1.other b2 0 (.int .i64 ((n : Int) + 1)) h12
    have s3 := a3.other b2 0 (.int .i64 ((n : Int) + 1)) h23
    have d2 : (wa.setCell ⟨b2, 0, none⟩ (.int .i64 ((n : Int) + 1))).cell? ⟨b2, 0, none⟩ = some (.int .i64 ((n : Int) + 1)) := by rw [s2.cell]; simp
    have d3 : (wa.setCell ⟨b2, 0, none⟩ (.int .i64 ((n : Int) + 1))).cell? ⟨b3, 0, none⟩ = some (.int .i64 m) := s3.cell 0
    have r1 : IntKind.i64.wrap ((n : Int) + 1) = (n : Int) + 1 := by rw [IntKind.wrap_i64]; omega
    have HF := hid (And.intro cs (And.intro s1 (And.intro s2 s3)))
    have HN := hid hn
    subst hwa
    clear h1 h2 h3 ca a1 a2 a3 cs s1 s2 s3 hn h12 h23
    show Calls Try.prog 49 #[.agg #[.int .i64 xv, .int .i64 xo, .string xa], .pointer (some ⟨b1, 0, none⟩), .pointer (some ⟨b2, 0, none⟩), .pointer (some ⟨b3, 0, none⟩)] u _
    go_enter Try.func49, Try.ntmps49
    go_wp2
    go_ret
    refine ⟨?_, fun y hy => ?_, HF.out.1⟩
    · simp [← HN.out]
    · simp at hy
      rcases hy with rfl | rfl | rfl
      · exact HF.out.2.1
      · have := HF.out.2.2.1; rw [← HN.out]; simpa using this
      · exact HF.out.2.2.2
  · have hne : (xo == o) = false := by simpa using hxo
    have HF := hid (And.intro ca (And.intro a1 (And.intro a2 a3)))
    have HN := hid hn
    subst hwa
    clear h1 h2 h3 ca a1 a2 a3 hn h12 h23
    show Calls Try.prog 49 #[.agg #[.int .i64 xv, .int .i64 xo, .string xa], .pointer (some ⟨b1, 0, none⟩), .pointer (some ⟨b2, 0, none⟩), .pointer (some ⟨b3, 0, none⟩)] u _
    go_enter Try.func49, Try.ntmps49
    go_wp2
    go_ret
    refine ⟨?_, fun y hy => ?_, HF.out.1⟩
    · simp
    · simp at hy
      rcases hy with rfl | rfl | rfl
      · exact HF.out.2.1
      · have := HF.out.2.2.1; simp [← HN.out]; exact this
      · exact HF.out.2.2.2
end S
end Go.Proofs.Ytlbnilendcelkaa
